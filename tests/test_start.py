"""Promise 1: ar_start."""

import unittest

from lines import LIMIT, PLAIN, REFUSED, STARTED, TOP, asked, start, tick

ABOVE = LIMIT + 1

REFUSED_SETTINGS = (
    {"low": 201},
    {"low": 1, "high": 0},
    {"low": LIMIT, "high": LIMIT - 1},
    {"nlow": 401},
    {"nlow": 1, "nhigh": 0},
    {"nlow": LIMIT, "nhigh": LIMIT - 1},
    {"turn": 0},
    {"turn": 65536},
    {"turn": 65537},
    {"turn": 131071},
    {"turn": TOP},
    {"low": ABOVE},
    {"low": ABOVE, "high": ABOVE},
    {"low": TOP, "high": TOP},
    {"high": ABOVE},
    {"high": TOP},
    {"nlow": ABOVE},
    {"nlow": ABOVE, "nhigh": ABOVE},
    {"nlow": TOP, "nhigh": TOP},
    {"nhigh": ABOVE},
    {"nhigh": TOP},
    {"least": ABOVE},
    {"least": TOP},
    {"most": ABOVE},
    {"most": TOP},
)

ALL_ZERO = {"low": 0, "high": 0, "nlow": 0, "nhigh": 0, "least": 0, "most": 0}

TAKEN_SETTINGS = (
    {},
    {"low": 200},
    {"high": 100},
    {"low": 0, "high": 0},
    {"nlow": 400},
    {"nhigh": 300},
    {"nlow": 0, "nhigh": 0},
    {"turn": 1},
    {"turn": 65535},
    {"low": LIMIT, "high": LIMIT},
    {"high": LIMIT},
    {"nlow": LIMIT, "nhigh": LIMIT},
    {"nhigh": LIMIT},
    {"least": LIMIT},
    {"most": LIMIT},
    {"low": LIMIT, "high": LIMIT, "nlow": LIMIT, "nhigh": LIMIT, "least": LIMIT, "most": LIMIT},
    {**ALL_ZERO, "turn": 1},
    {**ALL_ZERO, "turn": 65535},
    # The gases' bounds have nothing to do with one another, nor with the alarm's.
    {"low": 1000, "high": 2000},
    {"nlow": 1, "nhigh": 2},
    {"least": 900, "most": 3},
)

# Another number in every place, and none refused by itself.
OTHERS = {"low": 1100, "high": 1200, "nlow": 1300, "nhigh": 1400, "least": 1050, "most": 1070, "turn": 7}

# What shows each of PLAIN's numbers from both sides, whatever the valves were before.
PROBES = (
    (tick(oxygen=99, nitrogen=299), [0, 15, 15, 0, 0]),
    (tick(oxygen=100, nitrogen=300), [0, 15, 15, 0, 0]),
    (tick(oxygen=200, nitrogen=400), [0, 15, 15, 0, 0]),
    (tick(oxygen=201, nitrogen=401), [0, 0, 0, 0, 0]),
    (tick(oxygen=100, nitrogen=300), [0, 0, 0, 0, 0]),
    (tick(oxygen=50), [0, 15, 0, 0, 0]),
    (tick(oxygen=49), [0, 15, 0, 0, 1]),
    (tick(breathed=70), [0, 15, 0, 0, 0]),
    (tick(breathed=71), [0, 15, 0, 0, 1]),
    (tick(now=9), [0, 15, 0, 0, 0]),
    (tick(now=10), [0, 15, 0, 1, 0]),
    (tick(now=20), [0, 15, 0, 2, 0]),
)
PROBE_CALLS = [call for call, _ in PROBES]
PROBE_ANSWERS = [answer for _, answer in PROBES]

# An oxygen and a nitrogen that bring PLAIN's valves to the state told.
BROUGHT = (
    (15, 15, tick(oxygen=99, nitrogen=299)),
    (15, 0, tick(oxygen=99, nitrogen=401)),
    (0, 15, tick(oxygen=201, nitrogen=299)),
    (0, 0, tick(oxygen=201, nitrogen=401)),
)


class Refused(unittest.TestCase):
    def test_each_ground_by_itself(self):
        for setting in REFUSED_SETTINGS:
            with self.subTest(setting=setting):
                self.assertEqual(asked(start(), start(**setting)), [STARTED, REFUSED])

    def test_several_grounds_at_once(self):
        setting = {"low": 300, "nlow": 500, "most": ABOVE, "turn": 0}
        self.assertEqual(asked(start(), start(**setting)), [STARTED, REFUSED])

    def test_the_valves_stay_as_they_were(self):
        for setting in REFUSED_SETTINGS:
            for oxygen, nitrogen, bring in BROUGHT:
                with self.subTest(setting=setting, oxygen=oxygen, nitrogen=nitrogen):
                    parts = asked(start(), bring, start(**setting), tick())
                    self.assertEqual(parts[2:], [REFUSED, [0, oxygen, nitrogen, 0, 0]])

    def test_the_numbers_set_stay_as_they_were(self):
        for setting in REFUSED_SETTINGS:
            with self.subTest(setting=setting):
                parts = asked(start(), start(**setting), *PROBE_CALLS)
                self.assertEqual(parts[1:], [REFUSED] + PROBE_ANSWERS)

    def test_no_number_is_set_where_another_is_refused(self):
        for wrong in ({"low": 1201}, {"nlow": 1401}, {"turn": 0}, {"turn": 65536}, {"high": ABOVE},
                      {"nhigh": ABOVE}, {"least": ABOVE}, {"most": ABOVE}):
            with self.subTest(wrong=wrong):
                parts = asked(start(), start(**{**OTHERS, **wrong}), *PROBE_CALLS)
                self.assertEqual(parts[1:], [REFUSED] + PROBE_ANSWERS)

    def test_a_start_is_taken_behind_a_refused_one(self):
        parts = asked(start(**OTHERS), start(turn=0), start(), *PROBE_CALLS)
        self.assertEqual(parts, [STARTED, REFUSED, STARTED] + PROBE_ANSWERS)


class Taken(unittest.TestCase):
    def test_the_edges_first_in_a_line(self):
        for setting in TAKEN_SETTINGS:
            with self.subTest(setting=setting):
                self.assertEqual(asked(start(**setting)), [STARTED])

    def test_the_edges_behind_another(self):
        for setting in TAKEN_SETTINGS:
            with self.subTest(setting=setting):
                self.assertEqual(asked(start(), start(**setting)), [STARTED, STARTED])

    def test_the_numbers_are_set(self):
        self.assertEqual(asked(start(**PLAIN), *PROBE_CALLS), [STARTED] + PROBE_ANSWERS)

    def test_new_numbers_are_set(self):
        parts = asked(start(**OTHERS), tick(), start(), *PROBE_CALLS)
        self.assertEqual(parts[2:], [STARTED] + PROBE_ANSWERS)

    def test_the_valves_are_shut_at_first(self):
        self.assertEqual(asked(start(), tick()), [STARTED, [0, 0, 0, 0, 0]])

    def test_the_valves_are_shut_anew(self):
        for oxygen, nitrogen, bring in BROUGHT:
            with self.subTest(oxygen=oxygen, nitrogen=nitrogen):
                parts = asked(start(), bring, tick(), start(), tick())
                self.assertEqual(parts[2:], [[0, oxygen, nitrogen, 0, 0], STARTED, [0, 0, 0, 0, 0]])


if __name__ == "__main__":
    unittest.main()
