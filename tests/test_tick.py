"""Promise 2: ar_tick."""

import unittest

from lines import LIMIT, REFUSED, STARTED, TOP, asked, start, tick

ABOVE = LIMIT + 1


def last(*calls):
    return asked(*calls)[-1]


class Seen(unittest.TestCase):
    def test_each_is_taken_at_the_limit(self):
        self.assertEqual(last(start(), tick(oxygen=LIMIT)), [0, 0, 0, 0, 0])
        self.assertEqual(last(start(), tick(nitrogen=LIMIT)), [0, 0, 0, 0, 0])
        self.assertEqual(last(start(), tick(breathed=LIMIT)), [0, 0, 0, 0, 1])
        self.assertEqual(last(start(), tick(LIMIT, LIMIT, LIMIT)), [0, 0, 0, 0, 1])

    def test_each_is_taken_at_none(self):
        self.assertEqual(last(start(), tick(0, 0, 0)), [0, 15, 15, 0, 1])

    def test_each_is_refused_above_the_limit(self):
        for wrong in (ABOVE, 2 * LIMIT, TOP):
            for name in ("oxygen", "nitrogen", "breathed"):
                with self.subTest(wrong=wrong, name=name):
                    self.assertEqual(last(start(), tick(**{name: wrong})), REFUSED)

    def test_all_are_refused_above_the_limit(self):
        self.assertEqual(last(start(), tick(ABOVE, ABOVE, ABOVE)), REFUSED)

    def test_a_refusal_is_the_same_whatever_now_is(self):
        for now in (0, 1, LIMIT, ABOVE, TOP):
            with self.subTest(now=now):
                self.assertEqual(last(start(), tick(breathed=ABOVE, now=now)), REFUSED)

    def test_a_refusal_leaves_shut_valves_shut(self):
        for wrong in (tick(0, 0, ABOVE), tick(0, ABOVE, 0), tick(ABOVE, 0, 0)):
            with self.subTest(wrong=wrong):
                parts = asked(start(), wrong, tick())
                self.assertEqual(parts, [STARTED, REFUSED, [0, 0, 0, 0, 0]])

    def test_a_refusal_leaves_opened_valves_opened(self):
        for wrong in (tick(201, 401, ABOVE), tick(201, ABOVE, 0), tick(ABOVE, 401, 0)):
            with self.subTest(wrong=wrong):
                parts = asked(start(), tick(99, 299), wrong, tick())
                self.assertEqual(parts[2:], [REFUSED, [0, 15, 15, 0, 0]])


class Valves(unittest.TestCase):
    # How much is seen, against low 100 and high 200; what's told then, shut before and opened before.
    OXYGEN = (
        (0, 15, 15),
        (99, 15, 15),
        (100, 0, 15),
        (101, 0, 15),
        (150, 0, 15),
        (199, 0, 15),
        (200, 0, 15),
        (201, 0, 0),
        (LIMIT, 0, 0),
    )
    # The same against nlow 300 and nhigh 400.
    NITROGEN = (
        (0, 15, 15),
        (299, 15, 15),
        (300, 0, 15),
        (301, 0, 15),
        (350, 0, 15),
        (399, 0, 15),
        (400, 0, 15),
        (401, 0, 0),
        (LIMIT, 0, 0),
    )

    def test_oxygen_whatever_nitrogen_was(self):
        for amount, shut_before, opened_before in self.OXYGEN:
            for nitrogen_amount, nitrogen in ((401, 0), (299, 15)):
                with self.subTest(amount=amount, nitrogen=nitrogen):
                    parts = asked(start(least=0), tick(201, nitrogen_amount), tick(oxygen=amount))
                    self.assertEqual(parts[2], [0, shut_before, nitrogen, 0, 0])
                    parts = asked(start(least=0), tick(99, nitrogen_amount), tick(oxygen=amount))
                    self.assertEqual(parts[2], [0, opened_before, nitrogen, 0, 0])

    def test_nitrogen_whatever_oxygen_was(self):
        for amount, shut_before, opened_before in self.NITROGEN:
            for oxygen_amount, oxygen in ((201, 0), (99, 15)):
                with self.subTest(amount=amount, oxygen=oxygen):
                    parts = asked(start(), tick(oxygen_amount, 401), tick(nitrogen=amount))
                    self.assertEqual(parts[2], [0, oxygen, shut_before, 0, 0])
                    parts = asked(start(), tick(oxygen_amount, 299), tick(nitrogen=amount))
                    self.assertEqual(parts[2], [0, oxygen, opened_before, 0, 0])

    def test_both_gases_in_one_tick(self):
        for oxygen_amount, oxygen in ((99, 15), (201, 0)):
            for nitrogen_amount, nitrogen in ((299, 15), (401, 0)):
                for before in ((99, 299), (99, 401), (201, 299), (201, 401)):
                    with self.subTest(oxygen=oxygen, nitrogen=nitrogen, before=before):
                        parts = asked(start(), tick(*before), tick(oxygen_amount, nitrogen_amount))
                        self.assertEqual(parts[2], [0, oxygen, nitrogen, 0, 0])

    def test_low_equal_to_high(self):
        both = start(low=200, nlow=400)
        self.assertEqual(last(both, tick(199, 399)), [0, 15, 15, 0, 0])
        self.assertEqual(last(both, tick(200, 400)), [0, 0, 0, 0, 0])
        self.assertEqual(last(both, tick(199, 399), tick(200, 400)), [0, 15, 15, 0, 0])
        self.assertEqual(last(both, tick(199, 399), tick(201, 401)), [0, 0, 0, 0, 0])

    def test_low_at_zero_never_opens(self):
        self.assertEqual(last(start(low=0, nlow=0, least=0), tick(0, 0)), [0, 0, 0, 0, 0])

    def test_high_at_the_limit_never_shuts(self):
        limit = start(high=LIMIT, nhigh=LIMIT)
        self.assertEqual(last(limit, tick(99, 299), tick(LIMIT, LIMIT)), [0, 15, 15, 0, 0])

    def test_low_at_the_limit(self):
        limit = start(low=LIMIT, high=LIMIT, nlow=LIMIT, nhigh=LIMIT)
        self.assertEqual(last(limit, tick(LIMIT, LIMIT)), [0, 0, 0, 0, 0])
        self.assertEqual(last(limit, tick(LIMIT - 1, LIMIT - 1)), [0, 15, 15, 0, 0])

    def test_they_stay_over_many_ticks(self):
        parts = asked(start(), tick(99, 299), *[tick(now=now) for now in range(10)])
        self.assertEqual(parts[2:], [[0, 15, 15, 0, 0]] * 10)
        parts = asked(start(), tick(99, 299), tick(201, 401), *[tick(now=now) for now in range(10)])
        self.assertEqual(parts[3:], [[0, 0, 0, 0, 0]] * 10)


class Bed(unittest.TestCase):
    def beds(self, turn, nows):
        parts = asked(start(turn=turn), *[tick(now=now) for now in nows])
        return [part[3] for part in parts[1:]]

    def test_the_turns_edges(self):
        for turn in (2, 3, 10, 1000, 65535):
            with self.subTest(turn=turn):
                nows = (0, turn - 1, turn, 2 * turn - 1, 2 * turn, 3 * turn - 1, 3 * turn, 4 * turn)
                self.assertEqual(self.beds(turn, nows), [0, 0, 1, 1, 2, 2, 0, 1])

    def test_a_turn_of_one(self):
        self.assertEqual(self.beds(1, range(7)), [0, 1, 2, 0, 1, 2, 0])

    def test_the_last_now(self):
        for turn, bed in ((1, 0), (2, 1), (3, 1), (7, 0), (10, 1), (65534, 0), (65535, 2)):
            with self.subTest(turn=turn):
                self.assertEqual(self.beds(turn, (TOP,)), [bed])

    def test_around_half_of_the_last_now(self):
        self.assertEqual(self.beds(1, (2147483647, 2147483648, 2147483649)), [1, 2, 0])

    def test_now_goes_back_leaps_or_stands(self):
        nows = (29, 3, TOP, 0, 15, 15, TOP, TOP, 20)
        self.assertEqual(self.beds(10, nows), [2, 0, 1, 0, 1, 1, 1, 1, 2])

    def test_turns_come_while_nobody_steers(self):
        self.assertEqual(self.beds(10, (0, 25, 59, 60)), [0, 2, 2, 0])

    def test_refused_ticks_move_no_bed(self):
        parts = asked(start(), tick(now=5), tick(breathed=ABOVE, now=25), tick(now=9), tick(now=10))
        self.assertEqual([part[3:4] for part in parts[1:]], [[0], [], [0], [1]])

    def test_by_the_turn_that_was_set_last(self):
        parts = asked(start(turn=10), tick(now=20), start(turn=20), tick(now=20))
        self.assertEqual([parts[1][3], parts[3][3]], [2, 1])


class Alarm(unittest.TestCase):
    def alarms(self, setting, *ticks):
        return [part[4] for part in asked(setting, *ticks)[1:]]

    def test_oxygen_by_least(self):
        ticks = [tick(oxygen=amount) for amount in (0, 49, 50, 51, LIMIT)]
        self.assertEqual(self.alarms(start(), *ticks), [1, 1, 0, 0, 0])

    def test_breathed_out_by_most(self):
        ticks = [tick(breathed=amount) for amount in (0, 69, 70, 71, LIMIT)]
        self.assertEqual(self.alarms(start(), *ticks), [0, 0, 0, 1, 1])

    def test_both_at_once(self):
        ticks = (tick(oxygen=49, breathed=71), tick(oxygen=50, breathed=70))
        self.assertEqual(self.alarms(start(), *ticks), [1, 0])

    def test_never_by_nitrogen(self):
        ticks = [tick(nitrogen=amount) for amount in (0, 49, 71, LIMIT)]
        self.assertEqual(self.alarms(start(), *ticks), [0, 0, 0, 0])

    def test_whatever_the_valves_are(self):
        above_high = start(least=250)
        self.assertEqual(asked(above_high, tick(oxygen=249), tick(oxygen=250))[1:], [[0, 0, 0, 0, 1], [0, 0, 0, 0, 0]])
        self.assertEqual(asked(start(), tick(oxygen=99))[1], [0, 15, 0, 0, 0])

    def test_the_edges_of_least_and_most(self):
        self.assertEqual(self.alarms(start(least=0), tick(oxygen=0)), [0])
        self.assertEqual(self.alarms(start(least=LIMIT), tick(oxygen=LIMIT - 1), tick(oxygen=LIMIT)), [1, 0])
        self.assertEqual(self.alarms(start(most=0), tick(breathed=0), tick(breathed=1)), [0, 1])
        self.assertEqual(self.alarms(start(most=LIMIT), tick(breathed=LIMIT)), [0])

    def test_by_this_ticks_numbers(self):
        ticks = (tick(), tick(oxygen=49), tick(), tick(breathed=71), tick(), tick(oxygen=49))
        self.assertEqual(self.alarms(start(), *ticks), [0, 1, 0, 1, 0, 1])

    def test_not_by_a_refused_ticks_numbers(self):
        parts = asked(start(), tick(oxygen=49, nitrogen=ABOVE, breathed=71), tick())
        self.assertEqual(parts[1:], [REFUSED, [0, 0, 0, 0, 0]])

    def test_by_the_numbers_that_were_set_last(self):
        parts = asked(start(), tick(oxygen=50), start(least=51), tick(oxygen=50), start(most=0), tick(breathed=1))
        self.assertEqual([parts[1][4], parts[3][4], parts[5][4]], [0, 1, 1])


if __name__ == "__main__":
    unittest.main()
