import PyProof.Rows.All
import KE.OsGo
import PyFlatLaws
import PySem.Challenge.RW_crewair_s01_answers
set_option Elab.async false
namespace My
open PyFlat Kv195 Kv195Neutral

theorem whole_id (c : List (List Int)) : PyKv195.whole c = c := by
  unfold PyKv195.whole
  split <;> rfl

/-- the calls still to come from the list's rest -/
def First (cs : List (List (List Int))) : Prop := ∃ c r, cs = c :: r ∧ (c.headD []).headD 9 = 0 ∧ (step start c).2 = [0]
structure Rest (ns l given : List Int) (s : State) : Prop where
  ex : ∃ cs, l = put cs ∧ (∀ c ∈ cs, askedOne c = true) ∧ PyKv195.answers ns = given ++ PyFlat.told (played step s cs) ∧ (s = none → cs ≠ [] ∧ First cs)

theorem rest_init {ns : List Int} (h : PyKv195.answers_asked ns = true) : Rest ns ns [] none := by
  unfold PyKv195.answers_asked at h
  cases e : PyKv195.calls ns with
  | none => rw [e] at h; cases h
  | some cs =>
    rw [e] at h
    have hA : PyKv195.answers ns = PyFlat.told (played step start cs) := by
      unfold PyKv195.answers
      rw [e]
    unfold PyKv195.calls at e
    cases e2 : PyFlat.calls PyKv195.shape ns.length ns with
    | none => rw [e2] at e; cases e
    | some ds =>
      rw [e2] at e
      have e3 : ds.map PyKv195.whole = cs := Option.some.inj e
      have e4 : ds.map PyKv195.whole = ds := by
        have : PyKv195.whole = id := funext whole_id
        rw [this, List.map_id]
      rw [e4] at e3
      subst e3
      have a := put_calls _ _ _ e2
      simp only [Bool.and_eq_true] at h
      obtain ⟨_, h⟩ := h
      unfold asked at h
      simp only [Bool.and_eq_true, decide_eq_true_eq, beq_iff_eq] at h
      obtain ⟨⟨⟨⟨h1, _⟩, h2⟩, h3⟩, h4⟩ := h
      refine ⟨ds, a.1, fun c hc => List.all_eq_true.mp h2 c hc, hA, fun _ => ?_⟩
      cases ds with
      | nil => simp at h1
      | cons c r => exact ⟨by simp, c, r, rfl, h3, h4⟩

theorem rest_nil {ns given : List Int} {s : State} (h : Rest ns [] given s) : PyKv195.answers ns = given := by
  obtain ⟨cs, e, ha, hn, hf⟩ := h.ex
  cases cs with
  | nil => rw [hn]; show given ++ [] = given; exact List.append_nil _
  | cons c r =>
    have h1 := ha c (List.mem_cons_self)
    exfalso
    unfold askedOne asked1 at h1
    split at h1 <;> first | (simp [put, put1] at e; done) | simp at h1

theorem seven {a : List Int} (h : a.length = 7) : ∃ a0 a1 a2 a3 a4 a5 a6, a = [a0, a1, a2, a3, a4, a5, a6] := by
  match a, h with
  | [a0, a1, a2, a3, a4, a5, a6], _ => exact ⟨a0, a1, a2, a3, a4, a5, a6, rfl⟩
theorem three {a : List Int} (h : a.length = 3) : ∃ a0 a1 a2, a = [a0, a1, a2] := by
  match a, h with
  | [a0, a1, a2], _ => exact ⟨a0, a1, a2, rfl⟩

def setZ (a0 a1 a2 a3 a4 a5 a6 : Int) : Set_ := ⟨a0.toNat, a1.toNat, a2.toNat, a3.toNat, a4.toNat, a5.toNat, a6.toNat⟩
def seenZ (a0 a1 a2 : Int) : Seen := ⟨a0.toNat, a1.toNat, a2.toNat⟩

/-- what the next call is, and what is left behind it -/
inductive Next (ns given : List Int) (s : State) : List Int → Prop where
  | start (a0 a1 a2 a3 a4 a5 a6 : Int) (t : List Int) (b0 : 0 ≤ a0) (b1 : 0 ≤ a1) (b2 : 0 ≤ a2) (b3 : 0 ≤ a3) (b4 : 0 ≤ a4) (b5 : 0 ≤ a5) (b6 : 0 ≤ a6)
      (ok : (setZ a0 a1 a2 a3 a4 a5 a6).right = true → Rest ns t (given ++ [1, 0]) (some ⟨setZ a0 a1 a2 a3 a4 a5 a6, false, false⟩))
      (bad : (setZ a0 a1 a2 a3 a4 a5 a6).right = false → s ≠ none ∧ Rest ns t (given ++ [1, -22]) s) :
      Next ns given s (0 :: 7 :: a0 :: a1 :: a2 :: a3 :: a4 :: a5 :: a6 :: t)
  | tick (b a0 a1 a2 : Int) (t : List Int) (bb : 0 ≤ b) (b0 : 0 ≤ a0) (b1 : 0 ≤ a1) (b2 : 0 ≤ a2) (a : Abs) (hs : s = some a)
      (ok : (seenZ a0 a1 a2).fits = true → Rest ns t (given ++ [5, 0, (mask (a.on (seenZ a0 a1 a2)).oxygen : Int), (mask (a.on (seenZ a0 a1 a2)).nitrogen : Int), ((b.toNat / a.set.turn % 3 : Nat) : Int), if a0.toNat < a.set.least ∨ a.set.most < a2.toNat then 1 else 0]) (some (a.on (seenZ a0 a1 a2))))
      (bad : (seenZ a0 a1 a2).fits = false → Rest ns t (given ++ [1, -22]) s) :
      Next ns given s (1 :: b :: 3 :: a0 :: a1 :: a2 :: t)

theorem natural_nonneg {z : Int} {n : Nat} (h : natural z n = true) : 0 ≤ z := by
  unfold natural at h
  simp only [Bool.and_eq_true, decide_eq_true_eq] at h
  exact h.1

theorem step_start (s : State) (a0 a1 a2 a3 a4 a5 a6 : Int) : step s [[0], [a0, a1, a2, a3, a4, a5, a6]] =
    if (setZ a0 a1 a2 a3 a4 a5 a6).right = true then (some ⟨setZ a0 a1 a2 a3 a4 a5 a6, false, false⟩, [0]) else (s, [-22]) := by
  show (let x := Kv195.act s (.start (setZ a0 a1 a2 a3 a4 a5 a6)); (x.1, row x.2)) = _
  unfold Kv195.act
  by_cases h : (setZ a0 a1 a2 a3 a4 a5 a6).right = true
  · simp only [if_pos h]; rfl
  · simp only [if_neg h]; rfl
theorem step_tick (s : State) (b a0 a1 a2 : Int) : step s [[1, b], [a0, a1, a2]] =
    match s with
    | none => (s, [-22])
    | some a => if (seenZ a0 a1 a2).fits = true then (some (a.on (seenZ a0 a1 a2)), [0, (mask (a.on (seenZ a0 a1 a2)).oxygen : Int), (mask (a.on (seenZ a0 a1 a2)).nitrogen : Int), ((b.toNat / a.set.turn % 3 : Nat) : Int), if a0.toNat < a.set.least ∨ a.set.most < a2.toNat then 1 else 0]) else (s, [-22]) := by
  show (let x := Kv195.act s (.tick (seenZ a0 a1 a2) b.toNat); (x.1, row x.2)) = _
  cases s with
  | none => rfl
  | some a =>
    unfold Kv195.act
    by_cases h : (seenZ a0 a1 a2).fits = true
    · simp only [if_pos h]
      show (some (a.on (seenZ a0 a1 a2)), [0, (mask (a.on (seenZ a0 a1 a2)).oxygen : Int), (mask (a.on (seenZ a0 a1 a2)).nitrogen : Int), ((b.toNat / a.set.turn % 3 : Nat) : Int), (((if a0.toNat < a.set.least ∨ a.set.most < a2.toNat then 1 else 0 : Nat)) : Int)]) = _
      by_cases k : a0.toNat < a.set.least ∨ a.set.most < a2.toNat
      · simp only [if_pos k]; rfl
      · simp only [if_neg k]; rfl
    · simp only [if_neg h]; rfl

theorem told_cons (x : List Int) (l : List (List Int)) : PyFlat.told (x :: l) = ((x.length : Int) :: x) ++ PyFlat.told l := by
  unfold PyFlat.told
  rw [List.flatMap_cons]
theorem played_cons (s : State) (c : List (List Int)) (r : List (List (List Int))) : played step s (c :: r) = (step s c).2 :: played step (step s c).1 r := rfl

theorem next {ns l given : List Int} {s : State} (h : Rest ns l given s) (hl : l ≠ []) : Next ns given s l := by
  obtain ⟨cs, e, ha, hn, hf⟩ := h.ex
  cases cs with
  | nil => exact absurd e hl
  | cons c r =>
    have h1 := ha c (List.mem_cons_self)
    have hr : ∀ d ∈ r, askedOne d = true := fun d hd => ha d (List.mem_cons_of_mem _ hd)
    unfold askedOne at h1
    simp only [Bool.and_eq_true] at h1
    have h2 := h1.1.1.1
    unfold asked1 at h2
    split at h2
    · rename_i a
      simp only [Bool.and_eq_true, decide_eq_true_eq] at h2
      obtain ⟨⟨hb, h7⟩, _⟩ := h2
      obtain ⟨a0, a1, a2, a3, a4, a5, a6, rfl⟩ := seven h7
      have hb' := List.all_eq_true.mp hb
      have el : l = 0 :: 7 :: a0 :: a1 :: a2 :: a3 :: a4 :: a5 :: a6 :: put r := e
      rw [el]
      refine Next.start a0 a1 a2 a3 a4 a5 a6 (put r) (natural_nonneg (hb' a0 (by simp))) (natural_nonneg (hb' a1 (by simp))) (natural_nonneg (hb' a2 (by simp))) (natural_nonneg (hb' a3 (by simp))) (natural_nonneg (hb' a4 (by simp))) (natural_nonneg (hb' a5 (by simp))) (natural_nonneg (hb' a6 (by simp))) ?_ ?_
      · intro ok
        refine ⟨r, rfl, hr, ?_, fun z => by cases z⟩
        rw [hn]
        rw [played_cons]
        rw [step_start, if_pos ok, told_cons, List.append_assoc]
        rfl
      · intro bad
        have bad' : ¬ (setZ a0 a1 a2 a3 a4 a5 a6).right = true := by rw [bad]; decide
        have hs : s ≠ none := by
          intro z
          obtain ⟨_, c', r', e', _, h4⟩ := hf z
          obtain ⟨rfl, rfl⟩ := List.cons.inj e'
          rw [step_start, if_neg bad'] at h4
          exact absurd h4 (by decide)
        refine ⟨hs, r, rfl, hr, ?_, fun z => absurd z hs⟩
        rw [hn]
        rw [played_cons]
        rw [step_start, if_neg bad', told_cons, List.append_assoc]
        rfl
    · rename_i b a
      simp only [Bool.and_eq_true, decide_eq_true_eq] at h2
      obtain ⟨⟨⟨hb, h3⟩, hbb⟩, _⟩ := h2
      obtain ⟨a0, a1, a2, rfl⟩ := three h3
      have hb' := List.all_eq_true.mp hb
      have el : l = 1 :: b :: 3 :: a0 :: a1 :: a2 :: put r := e
      rw [el]
      cases s with
      | none =>
        obtain ⟨_, c', r', e', h4, _⟩ := hf rfl
        obtain ⟨rfl, rfl⟩ := List.cons.inj e'
        exact absurd (show (1 : Int) = 0 from h4) (by decide)
      | some a =>
        refine Next.tick b a0 a1 a2 (put r) (natural_nonneg hbb) (natural_nonneg (hb' a0 (by simp))) (natural_nonneg (hb' a1 (by simp))) (natural_nonneg (hb' a2 (by simp))) a rfl ?_ ?_
        · intro ok
          refine ⟨r, rfl, hr, ?_, fun z => by cases z⟩
          rw [hn]
          rw [played_cons]
          rw [step_tick]
          simp only [if_pos ok]
          rw [told_cons, List.append_assoc]
          rfl
        · intro bad
          have bad' : ¬ (seenZ a0 a1 a2).fits = true := by rw [bad]; decide
          refine ⟨r, rfl, hr, ?_, fun z => by cases z⟩
          rw [hn]
          rw [played_cons]
          rw [step_tick]
          simp only [if_neg bad']
          rw [told_cons, List.append_assoc]
          rfl
    · cases h2
abbrev rowAt (ns : List Int) (j : Int) : List Int := List.take (min (j + 1 + ns.getD j.toNat 0).toNat ns.length - (j + 1).toNat) (List.drop (j + 1).toNat ns)
def steered (before amount low high : Int) : Int := if amount < low then 15 else if amount > high then 0 else before

/-- the object's fields are the state's -/
def Rel (s : State) (low high nlow nhigh least most turn ox ni : Int) : Prop :=
  ∀ a : Abs, s = some a → low = (a.set.low : Int) ∧ high = (a.set.high : Int) ∧ nlow = (a.set.nlow : Int) ∧ nhigh = (a.set.nhigh : Int) ∧ least = (a.set.least : Int) ∧ most = (a.set.most : Int) ∧ turn = (a.set.turn : Int) ∧ ox = (mask a.oxygen : Int) ∧ ni = (mask a.nitrogen : Int)
structure Told (ns : List Int) (i : Int) (given : List Int) (low high nlow nhigh least most turn ox ni : Int) : Prop where
  ex : ∃ s, Rest ns (ns.drop i.toNat) given s ∧ Rel s low high nlow nhigh least most turn ox ni
/-- what holds between two turns of the loop -/
abbrev Word (ns : List Int) (i : Int) (given : List Int) (low high nlow nhigh least most turn ox ni : Int) : Prop :=
  0 ≤ i ∧ i ≤ (ns.length : Int) ∧ ns.length ≤ 30000 ∧ given.length ≤ 6 * i.toNat ∧ 1 ≤ turn ∧ turn ≤ 65535 ∧
    (i < (ns.length : Int) → ns.getD i.toNat 0 = 0 → i + 9 ≤ (ns.length : Int) ∧ ns.getD (i + 1).toNat 0 = 7) ∧
    (i < (ns.length : Int) → ns.getD i.toNat 0 ≠ 0 → i + 6 ≤ (ns.length : Int) ∧ ns.getD (i + 2).toNat 0 = 3) ∧
    Told ns i given low high nlow nhigh least most turn ox ni

theorem at_drop {ns l : List Int} {k : Nat} (h : l = ns.drop k) (j : Nat) : ns.getD (k + j) 0 = l.getD j 0 := by
  subst h
  rw [List.getD_eq_getElem?_getD, List.getD_eq_getElem?_getD, List.getElem?_drop]
theorem len_drop {ns l : List Int} {k : Nat} (h : l = ns.drop k) (hl : l ≠ []) : ns.length = k + l.length := by
  subst h
  rw [List.length_drop]
  by_cases hk : k < ns.length
  · omega
  · exact absurd (List.drop_of_length_le (by omega)) hl

section
variable {ns l given : List Int} {i low high nlow nhigh least most turn ox ni : Int}
theorem rest_ne (h0 : 0 ≤ i) (hl : i < (ns.length : Int)) : ns.drop i.toNat ≠ [] := by
  intro e
  have := congrArg List.length e
  rw [List.length_drop] at this
  simp at this
  omega
theorem word_of (T : Told ns i given low high nlow nhigh least most turn ox ni) (h0 : 0 ≤ i) (h1 : i ≤ (ns.length : Int)) (h2 : ns.length ≤ 30000) (h3 : given.length ≤ 6 * i.toNat) (h4 : 1 ≤ turn) (h5 : turn ≤ 65535) :
    Word ns i given low high nlow nhigh least most turn ox ni := by
  obtain ⟨s, hR, hS⟩ := T.ex
  have key : i < (ns.length : Int) → (ns.getD i.toNat 0 = 0 ∧ i + 9 ≤ (ns.length : Int) ∧ ns.getD (i + 1).toNat 0 = 7) ∨ (ns.getD i.toNat 0 ≠ 0 ∧ i + 6 ≤ (ns.length : Int) ∧ ns.getD (i + 2).toNat 0 = 3) := by
    intro hl
    have ne := rest_ne h0 hl
    have e1 : (i + 1).toNat = i.toNat + 1 := by omega
    have e2 : (i + 2).toNat = i.toNat + 2 := by omega
    obtain ⟨l, el⟩ : ∃ l, l = ns.drop i.toNat := ⟨_, rfl⟩
    have hx := len_drop el (by rw [el]; exact ne)
    have ha := at_drop el
    have N := next hR ne
    rw [← el] at N
    cases N with
    | start a0 a1 a2 a3 a4 a5 a6 t =>
      left
      have z0 := ha 0
      have z1 := ha 1
      simp only [List.length_cons] at hx
      refine ⟨z0, by omega, ?_⟩
      rw [e1, z1]
      rfl
    | tick b a0 a1 a2 t =>
      right
      have z0 := ha 0
      have z2 := ha 2
      simp only [List.length_cons] at hx
      refine ⟨?_, by omega, ?_⟩
      · rw [show i.toNat = i.toNat + 0 from rfl, z0]
        show (1 : Int) ≠ 0
        decide
      · rw [e2, z2]
        rfl
  refine ⟨h0, h1, h2, h3, h4, h5, fun hl hz => ?_, fun hl hz => ?_, T⟩
  · rcases key hl with k | k
    · exact k.2
    · exact absurd hz k.1
  · rcases key hl with k | k
    · exact absurd k.1 hz
    · exact k.2

theorem start_rest (T : Told ns i given low high nlow nhigh least most turn ox ni) (h0 : 0 ≤ i) (hl : i < (ns.length : Int)) (hz : ns.getD i.toNat 0 = 0) :
    ∃ (s : State) (a0 a1 a2 a3 a4 a5 a6 : Int), rowAt ns (i + 1) = [a0, a1, a2, a3, a4, a5, a6] ∧ Rel s low high nlow nhigh least most turn ox ni ∧ i + 9 ≤ (ns.length : Int) ∧
      0 ≤ a0 ∧ 0 ≤ a1 ∧ 0 ≤ a2 ∧ 0 ≤ a3 ∧ 0 ≤ a4 ∧ 0 ≤ a5 ∧ 0 ≤ a6 ∧
      ((setZ a0 a1 a2 a3 a4 a5 a6).right = true → Rest ns (ns.drop (i + 9).toNat) (given ++ [1] ++ [0]) (some ⟨setZ a0 a1 a2 a3 a4 a5 a6, false, false⟩)) ∧
      ((setZ a0 a1 a2 a3 a4 a5 a6).right = false → Rest ns (ns.drop (i + 9).toNat) (given ++ [1] ++ [-22]) s) := by
  obtain ⟨s, hR, hS⟩ := T.ex
  have ne := rest_ne h0 hl
  obtain ⟨l, el⟩ : ∃ l, l = ns.drop i.toNat := ⟨_, rfl⟩
  have hx := len_drop el (by rw [el]; exact ne)
  have ha := at_drop el
  have N := next hR ne
  rw [← el] at N
  cases N with
  | start a0 a1 a2 a3 a4 a5 a6 t b0 b1 b2 b3 b4 b5 b6 ok bad =>
    simp only [List.length_cons] at hx
    have e1 : (i + 1).toNat = i.toNat + 1 := by omega
    have e2 : (i + 1 + 1).toNat = i.toNat + 2 := by omega
    have z1 : ns.getD (i + 1).toNat 0 = 7 := by rw [e1, ha 1]; rfl
    have e9 : (i + 9).toNat = i.toNat + 9 := by omega
    have d9 : ns.drop (i + 9).toNat = t := by
      rw [e9, ← List.drop_drop, ← el]
      rfl
    have hrow : rowAt ns (i + 1) = [a0, a1, a2, a3, a4, a5, a6] := by
      have c : min (i + 1 + 1 + ns.getD (i + 1).toNat 0).toNat ns.length - (i + 1 + 1).toNat = 7 := by
        rw [z1]
        omega
      show List.take (min (i + 1 + 1 + ns.getD (i + 1).toNat 0).toNat ns.length - (i + 1 + 1).toNat) (List.drop (i + 1 + 1).toNat ns) = _
      rw [c, e2, ← List.drop_drop, ← el]
      rfl
    refine ⟨s, a0, a1, a2, a3, a4, a5, a6, hrow, hS, by omega, b0, b1, b2, b3, b4, b5, b6, fun k => ?_, fun k => ?_⟩
    · rw [d9, List.append_assoc]
      exact ok k
    · rw [d9, List.append_assoc]
      exact (bad k).2
  | tick b a0 a1 a2 t =>
    have z0 := ha 0
    rw [show i.toNat + 0 = i.toNat from rfl, hz] at z0
    exact absurd (show (0 : Int) = 1 from z0) (by decide)

theorem tick_rest (T : Told ns i given low high nlow nhigh least most turn ox ni) (h0 : 0 ≤ i) (hl : i < (ns.length : Int)) (hz : ns.getD i.toNat 0 ≠ 0) :
    ∃ (a : Abs) (b a0 a1 a2 : Int), rowAt ns (i + 2) = [a0, a1, a2] ∧ ns.getD (i + 1).toNat 0 = b ∧ Rel (some a) low high nlow nhigh least most turn ox ni ∧ i + 6 ≤ (ns.length : Int) ∧
      0 ≤ b ∧ 0 ≤ a0 ∧ 0 ≤ a1 ∧ 0 ≤ a2 ∧
      ((seenZ a0 a1 a2).fits = true → Rest ns (ns.drop (i + 6).toNat) (given ++ [5] ++ [0] ++ [(mask (a.on (seenZ a0 a1 a2)).oxygen : Int)] ++ [(mask (a.on (seenZ a0 a1 a2)).nitrogen : Int)] ++ [((b.toNat / a.set.turn % 3 : Nat) : Int)] ++ [if a0.toNat < a.set.least ∨ a.set.most < a2.toNat then 1 else 0]) (some (a.on (seenZ a0 a1 a2)))) ∧
      ((seenZ a0 a1 a2).fits = false → Rest ns (ns.drop (i + 6).toNat) (given ++ [1] ++ [-22]) (some a)) := by
  obtain ⟨s, hR, hS⟩ := T.ex
  have ne := rest_ne h0 hl
  obtain ⟨l, el⟩ : ∃ l, l = ns.drop i.toNat := ⟨_, rfl⟩
  have hx := len_drop el (by rw [el]; exact ne)
  have ha := at_drop el
  have N := next hR ne
  rw [← el] at N
  cases N with
  | start a0 a1 a2 a3 a4 a5 a6 t b0 b1 b2 b3 b4 b5 b6 ok bad =>
    have z0 := ha 0
    exact absurd z0 hz
  | tick b a0 a1 a2 t bb b0 b1 b2 a hs ok bad =>
    subst hs
    simp only [List.length_cons] at hx
    have e1 : (i + 1).toNat = i.toNat + 1 := by omega
    have e2 : (i + 2).toNat = i.toNat + 2 := by omega
    have e3 : (i + 2 + 1).toNat = i.toNat + 3 := by omega
    have z2 : ns.getD (i + 2).toNat 0 = 3 := by rw [e2, ha 2]; rfl
    have e6 : (i + 6).toNat = i.toNat + 6 := by omega
    have d6 : ns.drop (i + 6).toNat = t := by
      rw [e6, ← List.drop_drop, ← el]
      rfl
    have hrow : rowAt ns (i + 2) = [a0, a1, a2] := by
      have c : min (i + 2 + 1 + ns.getD (i + 2).toNat 0).toNat ns.length - (i + 2 + 1).toNat = 3 := by
        rw [z2]
        omega
      show List.take (min (i + 2 + 1 + ns.getD (i + 2).toNat 0).toNat ns.length - (i + 2 + 1).toNat) (List.drop (i + 2 + 1).toNat ns) = _
      rw [c, e3, ← List.drop_drop, ← el]
      rfl
    refine ⟨a, b, a0, a1, a2, hrow, by rw [e1, ha 1]; rfl, hS, by omega, bb, b0, b1, b2, fun k => ?_, fun k => ?_⟩
    · rw [d6]
      have := ok k
      simpa only [List.append_assoc, List.cons_append, List.nil_append] using this
    · rw [d6, List.append_assoc]
      exact bad k

theorem right_of {a0 a1 a2 a3 a4 a5 a6 : Int} (b0 : 0 ≤ a0) (b1 : 0 ≤ a1) (b2 : 0 ≤ a2) (b3 : 0 ≤ a3) (b4 : 0 ≤ a4) (b5 : 0 ≤ a5) (b6 : 0 ≤ a6) :
    (setZ a0 a1 a2 a3 a4 a5 a6).right = true ↔ a0 ≤ a1 ∧ a2 ≤ a3 ∧ 1 ≤ a6 ∧ a6 ≤ 65535 ∧ a0 ≤ 1073741824 ∧ a1 ≤ 1073741824 ∧ a2 ≤ 1073741824 ∧ a3 ≤ 1073741824 ∧ a4 ≤ 1073741824 ∧ a5 ≤ 1073741824 := by
  have hM : MOST = 1073741824 := by decide
  unfold Set_.right setZ
  simp only [Bool.and_eq_true, decide_eq_true_eq, List.all_cons, List.all_nil, hM, and_true]
  omega
theorem fits_of {a0 a1 a2 : Int} (b0 : 0 ≤ a0) (b1 : 0 ≤ a1) (b2 : 0 ≤ a2) : (seenZ a0 a1 a2).fits = true ↔ a0 ≤ 1073741824 ∧ a1 ≤ 1073741824 ∧ a2 ≤ 1073741824 := by
  have hM : MOST = 1073741824 := by decide
  unfold Seen.fits seenZ
  simp only [Bool.and_eq_true, decide_eq_true_eq, hM]
  omega

theorem start_bad (T : Told ns i given low high nlow nhigh least most turn ox ni) (hl : i < (ns.length : Int)) (hz : ns.getD i.toNat 0 = 0)
    (hbad : (rowAt ns (i + 1)).getD (Int.toNat 1) 0 < (rowAt ns (i + 1)).getD (Int.toNat 0) 0 ∨ (rowAt ns (i + 1)).getD (Int.toNat 3) 0 < (rowAt ns (i + 1)).getD (Int.toNat 2) 0 ∨ (rowAt ns (i + 1)).getD (Int.toNat 6) 0 < 1 ∨ 65535 < (rowAt ns (i + 1)).getD (Int.toNat 6) 0 ∨ ∃ v ∈ List.take 6 (rowAt ns (i + 1)), 1073741824 < v)
    (h0 : 0 ≤ i) (h2 : ns.length ≤ 30000) (h3 : given.length ≤ 6 * i.toNat) (h4 : 1 ≤ turn) (h5 : turn ≤ 65535) :
    Word ns (i + 1 + 1 + ((rowAt ns (i + 1)).length : Int)) (given ++ [1] ++ [-22]) low high nlow nhigh least most turn ox ni := by
  obtain ⟨s, a0, a1, a2, a3, a4, a5, a6, er, hS, h9, b0, b1, b2, b3, b4, b5, b6, ok, bad⟩ := start_rest T h0 hl hz
  rw [er] at hbad ⊢
  have ei : i + 1 + 1 + ((([a0, a1, a2, a3, a4, a5, a6] : List Int).length : Nat) : Int) = i + 9 := by
    show i + 1 + 1 + 7 = i + 9
    omega
  rw [ei]
  have no : (setZ a0 a1 a2 a3 a4 a5 a6).right = false := by
    cases hr : (setZ a0 a1 a2 a3 a4 a5 a6).right with
    | false => rfl
    | true =>
      exfalso
      have k := (right_of b0 b1 b2 b3 b4 b5 b6).mp hr
      rcases hbad with h | h | h | h | ⟨v, hv, h⟩
      · have h' : a1 < a0 := h
        omega
      · have h' : a3 < a2 := h
        omega
      · have h' : a6 < 1 := h
        omega
      · have h' : 65535 < a6 := h
        omega
      · have hv' : v ∈ [a0, a1, a2, a3, a4, a5] := hv
        simp only [List.mem_cons, List.not_mem_nil, or_false] at hv'
        omega
  refine word_of ⟨s, bad no, hS⟩ (by omega) (by omega) h2 ?_ h4 h5
  simp only [List.length_append, List.length_cons, List.length_nil]
  omega

theorem start_ok (T : Told ns i given low high nlow nhigh least most turn ox ni) (hl : i < (ns.length : Int)) (hz : ns.getD i.toNat 0 = 0)
    (c1 : ¬ (rowAt ns (i + 1)).getD (Int.toNat 1) 0 < (rowAt ns (i + 1)).getD (Int.toNat 0) 0) (c2 : ¬ (rowAt ns (i + 1)).getD (Int.toNat 3) 0 < (rowAt ns (i + 1)).getD (Int.toNat 2) 0) (c3 : ¬ (rowAt ns (i + 1)).getD (Int.toNat 6) 0 < 1) (c4 : ¬ 65535 < (rowAt ns (i + 1)).getD (Int.toNat 6) 0) (c5 : ∀ v : Int, v ∈ List.take 6 (rowAt ns (i + 1)) → v ≤ 1073741824)
    (h0 : 0 ≤ i) (h2 : ns.length ≤ 30000) (h3 : given.length ≤ 6 * i.toNat) :
    Word ns (i + 1 + 1 + ((rowAt ns (i + 1)).length : Int)) (given ++ [1] ++ [0]) ((rowAt ns (i + 1)).getD (Int.toNat 0) 0) ((rowAt ns (i + 1)).getD (Int.toNat 1) 0) ((rowAt ns (i + 1)).getD (Int.toNat 2) 0) ((rowAt ns (i + 1)).getD (Int.toNat 3) 0) ((rowAt ns (i + 1)).getD (Int.toNat 4) 0) ((rowAt ns (i + 1)).getD (Int.toNat 5) 0) ((rowAt ns (i + 1)).getD (Int.toNat 6) 0) 0 0 := by
  obtain ⟨s, a0, a1, a2, a3, a4, a5, a6, er, hS, h9, b0, b1, b2, b3, b4, b5, b6, ok, bad⟩ := start_rest T h0 hl hz
  rw [er] at c1 c2 c3 c4 c5 ⊢
  have ei : i + 1 + 1 + ((([a0, a1, a2, a3, a4, a5, a6] : List Int).length : Nat) : Int) = i + 9 := by
    show i + 1 + 1 + 7 = i + 9
    omega
  rw [ei]
  have c1' : ¬ a1 < a0 := c1
  have c2' : ¬ a3 < a2 := c2
  have c3' : ¬ a6 < 1 := c3
  have c4' : ¬ 65535 < a6 := c4
  have c5' : ∀ v : Int, v ∈ [a0, a1, a2, a3, a4, a5] → v ≤ 1073741824 := c5
  have d0 := c5' a0 (by simp)
  have d1 := c5' a1 (by simp)
  have d2 := c5' a2 (by simp)
  have d3 := c5' a3 (by simp)
  have d4 := c5' a4 (by simp)
  have d5 := c5' a5 (by simp)
  have yes := (right_of b0 b1 b2 b3 b4 b5 b6).mpr ⟨by omega, by omega, by omega, by omega, d0, d1, d2, d3, d4, d5⟩
  show Word ns (i + 9) (given ++ [1] ++ [0]) a0 a1 a2 a3 a4 a5 a6 0 0
  refine word_of ⟨_, ok yes, ?_⟩ (by omega) (by omega) h2 ?_ (by omega) (by omega)
  · intro a e
    have e' := Option.some.inj e
    subst e'
    refine ⟨?_, ?_, ?_, ?_, ?_, ?_, ?_, rfl, rfl⟩
    · exact (Int.toNat_of_nonneg b0).symm
    · exact (Int.toNat_of_nonneg b1).symm
    · exact (Int.toNat_of_nonneg b2).symm
    · exact (Int.toNat_of_nonneg b3).symm
    · exact (Int.toNat_of_nonneg b4).symm
    · exact (Int.toNat_of_nonneg b5).symm
    · exact (Int.toNat_of_nonneg b6).symm
  · simp only [List.length_append, List.length_cons, List.length_nil]
    omega

theorem tick_bad (T : Told ns i given low high nlow nhigh least most turn ox ni) (hl : i < (ns.length : Int)) (hz : ns.getD i.toNat 0 ≠ 0)
    (hbad : ∃ v ∈ rowAt ns (i + 2), 1073741824 < v)
    (h0 : 0 ≤ i) (h2 : ns.length ≤ 30000) (h3 : given.length ≤ 6 * i.toNat) (h4 : 1 ≤ turn) (h5 : turn ≤ 65535) :
    Word ns (i + 2 + 1 + ((rowAt ns (i + 2)).length : Int)) (given ++ [1] ++ [-22]) low high nlow nhigh least most turn ox ni := by
  obtain ⟨a, b, a0, a1, a2, er, eb, hS, h6, bb, b0, b1, b2, ok, bad⟩ := tick_rest T h0 hl hz
  rw [er] at hbad ⊢
  have ei : i + 2 + 1 + ((([a0, a1, a2] : List Int).length : Nat) : Int) = i + 6 := by
    show i + 2 + 1 + 3 = i + 6
    omega
  rw [ei]
  have no : (seenZ a0 a1 a2).fits = false := by
    cases hr : (seenZ a0 a1 a2).fits with
    | false => rfl
    | true =>
      exfalso
      have k := (fits_of b0 b1 b2).mp hr
      obtain ⟨v, hv, h⟩ := hbad
      simp only [List.mem_cons, List.not_mem_nil, or_false] at hv
      omega
  refine word_of ⟨_, bad no, hS⟩ (by omega) (by omega) h2 ?_ h4 h5
  simp only [List.length_append, List.length_cons, List.length_nil]
  omega

theorem steered_is {ox amount low high : Int} {x l h : Nat} {was : Bool} (e1 : ox = (mask was : Int)) (e2 : amount = (x : Int)) (e3 : low = (l : Int)) (e4 : high = (h : Int)) :
    steered ox amount low high = (mask (steer l h x was) : Int) := by
  subst e1 e2 e3 e4
  unfold steered steer
  by_cases k : x < l
  · rw [if_pos (by omega), if_pos k]; rfl
  · rw [if_neg (by omega), if_neg k]
    by_cases k2 : h < x
    · rw [if_pos (by omega), if_pos k2]; rfl
    · rw [if_neg (by omega), if_neg k2]
theorem bed_is {b turn : Int} {t : Nat} (hb : 0 ≤ b) (ht : turn = (t : Int)) : (b.fdiv turn).fmod 3 = ((b.toNat / t % 3 : Nat) : Int) := by
  subst ht
  obtain ⟨n, rfl⟩ : ∃ n : Nat, b = (n : Int) := ⟨b.toNat, (Int.toNat_of_nonneg hb).symm⟩
  rw [Int.fdiv_eq_ediv_of_nonneg _ (by omega), Int.fmod_eq_emod_of_nonneg _ (by decide), Int.toNat_natCast]
  rfl

theorem tick_ok {al : Int} (T : Told ns i given low high nlow nhigh least most turn ox ni) (hl : i < (ns.length : Int)) (hz : ns.getD i.toNat 0 ≠ 0)
    (c5 : ∀ v : Int, v ∈ rowAt ns (i + 2) → v ≤ 1073741824)
    (hal : ((rowAt ns (i + 2)).getD (Int.toNat 0) 0 < least ∧ al = 1) ∨ (most < (rowAt ns (i + 2)).getD (Int.toNat 2) 0 ∧ al = 1) ∨ (¬ (rowAt ns (i + 2)).getD (Int.toNat 0) 0 < least ∧ ¬ most < (rowAt ns (i + 2)).getD (Int.toNat 2) 0 ∧ al = 0))
    (h0 : 0 ≤ i) (h2 : ns.length ≤ 30000) (h3 : given.length ≤ 6 * i.toNat) (h4 : 1 ≤ turn) (h5 : turn ≤ 65535) :
    Word ns (i + 2 + 1 + ((rowAt ns (i + 2)).length : Int)) (given ++ [5] ++ [0] ++ [steered ox ((rowAt ns (i + 2)).getD (Int.toNat 0) 0) low high] ++ [steered ni ((rowAt ns (i + 2)).getD (Int.toNat 1) 0) nlow nhigh] ++ [((ns.getD (i + 1).toNat 0).fdiv turn).fmod 3] ++ [al]) low high nlow nhigh least most turn (steered ox ((rowAt ns (i + 2)).getD (Int.toNat 0) 0) low high) (steered ni ((rowAt ns (i + 2)).getD (Int.toNat 1) 0) nlow nhigh) := by
  obtain ⟨a, b, a0, a1, a2, er, eb, hS, h6, bb, b0, b1, b2, ok, bad⟩ := tick_rest T h0 hl hz
  rw [er] at c5 hal ⊢
  rw [eb]
  have ei : i + 2 + 1 + ((([a0, a1, a2] : List Int).length : Nat) : Int) = i + 6 := by
    show i + 2 + 1 + 3 = i + 6
    omega
  rw [ei]
  obtain ⟨s1, s2, s3, s4, s5, s6, s7, s8, s9⟩ := hS a rfl
  have d0 := c5 a0 (by simp)
  have d1 := c5 a1 (by simp)
  have d2 := c5 a2 (by simp)
  have yes := (fits_of b0 b1 b2).mpr ⟨d0, d1, d2⟩
  have hal' : (a0 < least ∧ al = 1) ∨ (most < a2 ∧ al = 1) ∨ (¬ a0 < least ∧ ¬ most < a2 ∧ al = 0) := hal
  have ea : al = if a0.toNat < a.set.least ∨ a.set.most < a2.toNat then 1 else 0 := by
    split <;> omega
  have eo : steered ox a0 low high = (mask (a.on (seenZ a0 a1 a2)).oxygen : Int) := steered_is s8 (Int.toNat_of_nonneg b0).symm s1 s2
  have en : steered ni a1 nlow nhigh = (mask (a.on (seenZ a0 a1 a2)).nitrogen : Int) := steered_is s9 (Int.toNat_of_nonneg b1).symm s3 s4
  show Word ns (i + 6) (given ++ [5] ++ [0] ++ [steered ox a0 low high] ++ [steered ni a1 nlow nhigh] ++ [(b.fdiv turn).fmod 3] ++ [al]) low high nlow nhigh least most turn (steered ox a0 low high) (steered ni a1 nlow nhigh)
  rw [eo, en, bed_is bb s7, ea]
  refine word_of ⟨_, ok yes, ?_⟩ (by omega) (by omega) h2 ?_ h4 h5
  · intro a' e
    have e' := Option.some.inj e
    subst e'
    exact ⟨s1, s2, s3, s4, s5, s6, s7, rfl, rfl⟩
  · simp only [List.length_append, List.length_cons, List.length_nil]
    omega

theorem begin_word (h : PyKv195.answers_asked ns = true) (h2 : ns.length ≤ 30000) : Word ns 0 [] 0 0 0 0 0 0 1 0 0 := by
  refine word_of ⟨none, rest_init h, fun a e => nomatch e⟩ (by decide) (by omega) h2 (by decide) (by decide) (by decide)
theorem end_word (T : Told ns i given low high nlow nhigh least most turn ox ni) (hl : ¬ i < (ns.length : Int)) : given = PyKv195.answers ns := by
  obtain ⟨s, hR, _⟩ := T.ex
  have e : ns.drop i.toNat = [] := List.drop_of_length_le (by omega)
  rw [e] at hR
  exact (rest_nil hR).symm
theorem start_less (hl : i < (ns.length : Int)) (h0 : 0 ≤ i) : ns.length - (i + 1 + 1 + ((rowAt ns (i + 1)).length : Int)).toNat < ns.length - i.toNat := by
  omega
theorem tick_less (hl : i < (ns.length : Int)) (h0 : 0 ≤ i) : ns.length - (i + 2 + 1 + ((rowAt ns (i + 2)).length : Int)).toNat < ns.length - i.toNat := by
  omega
end
end My
open PySem PySem.W PyProof.Rows
namespace My
theorem begin_of {ns : List Int} (h : PySem.Challenge.rw_crewair_s01_answers.pre [ofPy (PyData.list (ns.map PyData.int))] = true) : Word ns 0 [] 0 0 0 0 0 0 1 0 0 := by
  obtain ⟨dec, _, most, _⟩ := os_dec_ints (os_pre_isSome h)
  have asked := os_pre_asked h dec
  exact begin_word asked most
theorem same_ints {l k : List Int} (h : l = k) : same (WData.list (ofPys (l.map PyData.int))) (WData.list (k.map WData.int)) = true := by
  rw [h, ofPys_ints]
  exact same_self _
end My
namespace My
section
variable {prog : Program} {w : World} {A : Around} {E : Value → Shared → Prop} {s : Shared} {h₀ h : Heap} {L D b : Addr} {m : Str → Option Value} {news news' : List (Addr × Obj)} {its : Array Value} {n n2 : Nat}
theorem ext_list {Q : Value → Shared → Prop} {its2 res : Array Value} (F : Fr h₀ L s.heap m) (N : News h₀ L s.heap news) (hb : (b, W.listOf its2 n2) ∈ news) (e : its ++ its2 = res) (hne : its2.toList.length ≠ 0)
    (U : Upd D (W.listOf its n) (W.listOf res (n + 1)) news news') (hz : its.size + its2.size ≤ sizeLine)
    (h : ∀ h', Fr h₀ L h' m → News h₀ L h' news' → Q .none { s with heap := h' }) : wpAny (model prog w) A (call (.builtin "list.extend") [.ref D, .ref b]) Q E s := by
  subst e
  have e2 : (its.toList ++ its2.toList).toArray = its ++ its2 := by
    apply Array.toList_inj.mp
    simp
  refine kl_extend (n := n) F N hb (l := its.toList ++ its2.toList) rfl hne ?_ (extend_door hz) ?_ ?_ h
  · rw [e2]; exact U
  · rw [Array.length_toList]; omega
  · omega
theorem ext_one {Q : Value → Shared → Prop} {v : Value} (F : Fr h₀ L s.heap m) (N : News h₀ L s.heap news) (hb : (b, W.listOf #[v] n2) ∈ news)
    (U : Upd D (W.listOf its n) (W.listOf (its.push v) (n + 1)) news news') (hz : its.size + 1 ≤ sizeLine)
    (h : ∀ h', Fr h₀ L h' m → News h₀ L h' news' → Q .none { s with heap := h' }) : wpAny (model prog w) A (call (.builtin "list.extend") [.ref D, .ref b]) Q E s :=
  ext_list F N hb (by apply Array.toList_inj.mp; simp) (by simp) U hz h
theorem ext_five {Q : Value → Shared → Prop} {v1 v2 v3 v4 v5 : Value} (F : Fr h₀ L s.heap m) (N : News h₀ L s.heap news) (hb : (b, W.listOf #[v1, v2, v3, v4, v5] n2) ∈ news)
    (U : Upd D (W.listOf its n) (W.listOf (((((its.push v1).push v2).push v3).push v4).push v5) (n + 1)) news news') (hz : its.size + 5 ≤ sizeLine)
    (h : ∀ h', Fr h₀ L h' m → News h₀ L h' news' → Q .none { s with heap := h' }) : wpAny (model prog w) A (call (.builtin "list.extend") [.ref D, .ref b]) Q E s :=
  ext_list F N hb (by apply Array.toList_inj.mp; simp) (by simp) U hz h
end
end My
local macro_rules | `(tactic| walk_at "call builtin:list.extend") => `(tactic| (k_here; (with_reducible show wpAny _ _ (call (Value.builtin _) [Value.ref _, Value.ref _]) _ _ _); k_dflt (first | (refine' My.ext_one ?F ?N ?b ?U ?z ?_; (case F => k_asm); (case N => k_asm); (case b => k_mem); (case U => k_upd); (case z => (simp only [Array.size_push, List.size_toArray, sizeLine_eq]; omega))) | (refine' My.ext_five ?F ?N ?b ?U ?z ?_; (case F => k_asm); (case N => k_asm); (case b => k_mem); (case U => k_upd); (case z => (simp only [Array.size_push, List.size_toArray, sizeLine_eq]; omega)))); kl_rest))
set_option maxRecDepth 100000 in
set_option maxHeartbeats 8000000 in
theorem PySem.Challenge.cw_crewair_s01_answers_holds : PySem.Challenge.rw_crewair_s01_answers.Holds := by
  k_with "state" => first
    | exact My.begin_of (by assumption)
    | exact My.start_bad (by assumption) (by assumption) (by assumption) (Or.inl (by assumption)) (by assumption) (by assumption) (by assumption) (by assumption) (by assumption)
    | exact My.start_bad (by assumption) (by assumption) (by assumption) (Or.inr (Or.inl (by assumption))) (by assumption) (by assumption) (by assumption) (by assumption) (by assumption)
    | exact My.start_bad (by assumption) (by assumption) (by assumption) (Or.inr (Or.inr (Or.inl (by assumption)))) (by assumption) (by assumption) (by assumption) (by assumption) (by assumption)
    | exact My.start_bad (by assumption) (by assumption) (by assumption) (Or.inr (Or.inr (Or.inr (Or.inl (by assumption))))) (by assumption) (by assumption) (by assumption) (by assumption) (by assumption)
    | exact My.start_bad (by assumption) (by assumption) (by assumption) (Or.inr (Or.inr (Or.inr (Or.inr ⟨_, by assumption, by assumption⟩)))) (by assumption) (by assumption) (by assumption) (by assumption) (by assumption)
    | exact My.start_ok (by assumption) (by assumption) (by assumption) (by assumption) (by assumption) (by assumption) (by assumption) (by assumption) (by assumption) (by assumption) (by assumption)
    | exact My.tick_bad (by assumption) (by assumption) (by assumption) ⟨_, by assumption, by assumption⟩ (by assumption) (by assumption) (by assumption) (by assumption) (by assumption)
    | exact My.tick_ok (by assumption) (by assumption) (by assumption) (by assumption) (Or.inl ⟨by assumption, rfl⟩) (by assumption) (by assumption) (by assumption) (by assumption) (by assumption)
    | exact My.tick_ok (by assumption) (by assumption) (by assumption) (by assumption) (Or.inr (Or.inl ⟨by assumption, rfl⟩)) (by assumption) (by assumption) (by assumption) (by assumption) (by assumption)
    | exact My.tick_ok (by assumption) (by assumption) (by assumption) (by assumption) (Or.inr (Or.inr ⟨by assumption, by assumption, rfl⟩)) (by assumption) (by assumption) (by assumption) (by assumption) (by assumption)
  k_with "measure" => first
    | exact My.start_less (by assumption) (by assumption)
    | exact My.tick_less (by assumption) (by assumption)
  k_with "tree" => simp only [My.steered]
  k_with "call ref" => k_call_by "steered" My.steered
  k_with "pyIter ref" => k_search (fun pre => ∀ v ∈ pre, v ≤ 1073741824)
  k_with "exec While Compare cons nil" => k_while (fun ns i given low high nlow nhigh least most turn ox ni =>
    0 ≤ i ∧ i ≤ (ns.length : Int) ∧ ns.length ≤ 30000 ∧ given.length ≤ 6 * i.toNat ∧ 1 ≤ turn ∧ turn ≤ 65535 ∧
    (i < (ns.length : Int) → ns.getD i.toNat 0 = 0 → i + 9 ≤ (ns.length : Int) ∧ ns.getD (i + 1).toNat 0 = 7) ∧
    (i < (ns.length : Int) → ns.getD i.toNat 0 ≠ 0 → i + 6 ≤ (ns.length : Int) ∧ ns.getD (i + 2).toNat 0 = 3) ∧
    My.Told ns i given low high nlow nhigh least most turn ox ni) (fun ns i given low high nlow nhigh least most turn ox ni => ns.length - i.toNat)
    "at" "given" "air.low" "air.high" "air.nlow" "air.nhigh" "air.least" "air.most" "air.turn" "air.oxygen" "air.nitrogen"
  open_ks with [.list [.int 0, .int 7, .int 0, .int 0, .int 0, .int 0, .int 0, .int 0, .int 1]]
  os_ints
  refine My.same_ints ?_
  exact My.end_word (by assumption) (by assumption)
#print axioms PySem.Challenge.cw_crewair_s01_answers_holds
