"""The interface: the form of calls and answers, and what holds over the whole program."""

import contextlib
import inspect
import io
import sys
import unittest

from crewair.valves import answers
from lines import LIMIT, TOP, joined, start, tick

START = [0, 7, 100, 200, 300, 400, 50, 70, 10]

CHANGES = ("append", "clear", "extend", "insert", "pop", "remove", "reverse", "sort",
           "__setitem__", "__delitem__", "__iadd__", "__imul__")


def no_change(*args, **kwargs):
    raise AssertionError("what is handed in was changed")


Guarded = type("Guarded", (list,), {name: no_change for name in CHANGES})


def mixed_line(count):
    """A line of count calls: taken and refused ones of both kinds."""
    wheel = (tick(99, 299, 0, 5), tick(150, 350, 71, TOP), tick(LIMIT + 1), start(turn=0),
             tick(201, 299, 70, 20), start(low=120))
    return joined([start()] + [wheel[k % len(wheel)] for k in range(count - 1)])


def difference(given, expected):
    """None where both are the same; else where they first part. unittest's own view of long lists takes minutes."""
    for at, (one, other) in enumerate(zip(given, expected)):
        if one != other:
            return f"{one} in the place of {other} at {at}"
    if len(given) != len(expected):
        return f"{len(given)} numbers in the place of {len(expected)}"
    return None


# What mixed_line's wheel answers, behind a start and once it has gone round.
WHEEL = [5, 0, 15, 15, 0, 0] + [5, 0, 15, 15, 1, 1] + [1, -22] + [1, -22] + [5, 0, 0, 15, 2, 0] + [1, 0]


class Form(unittest.TestCase):
    def test_the_parameter_is_called_as_told(self):
        self.assertEqual(list(inspect.signature(answers).parameters), ["calls"])
        self.assertEqual(answers(calls=START), [1, 0])

    def test_one_call(self):
        self.assertEqual(answers(START), [1, 0])

    def test_now_stands_ahead_of_seen(self):
        self.assertEqual(answers(START + [1, 20, 3, 99, 401, 71]), [1, 0, 5, 0, 15, 0, 2, 1])

    def test_the_counts_of_refusals(self):
        refused_start = [0, 7, 201, 200, 300, 400, 50, 70, 10]
        refused_tick = [1, 0, 3, LIMIT + 1, 0, 0]
        self.assertEqual(answers(START + refused_start + refused_tick), [1, 0, 1, -22, 1, -22])

    def test_set_is_read_in_its_order(self):
        self.assertEqual(answers([0, 7, 7, 8, 1, 2, 3, 4, 5] + [1, 5, 3, 6, 3, 4]), [1, 0, 5, 0, 15, 0, 1, 0])

    def test_a_line_of_256_calls(self):
        calls = mixed_line(256)
        self.assertIsNone(difference(answers(calls), [1, 0] + WHEEL * 42 + WHEEL[:14]))

    def test_256_starts(self):
        self.assertIsNone(difference(answers(START * 256), [1, 0] * 256))

    def test_255_ticks(self):
        calls = START + joined([tick(99, 299, 0, 10 * now) for now in range(255)])
        expected = [1, 0] + joined([[5, 0, 15, 15, now % 3, 0] for now in range(255)])
        self.assertIsNone(difference(answers(calls), expected))

    def test_a_list_of_ints_is_given_back(self):
        given = answers(mixed_line(12))
        self.assertIs(type(given), list)
        self.assertEqual({type(number) for number in given}, {int})


class WholeProgram(unittest.TestCase):
    def test_what_is_handed_in_is_as_it_was(self):
        calls = mixed_line(256)
        before = list(calls)
        answers(calls)
        self.assertIsNone(difference(calls, before))

    def test_what_is_handed_in_is_not_changed_for_a_while(self):
        calls = mixed_line(256)
        self.assertIsNone(difference(answers(Guarded(calls)), answers(calls)))

    def test_nothing_is_kept(self):
        calls = mixed_line(20)
        first = answers(calls)
        expected = list(first)
        answers(joined([start(low=1, high=1, turn=3), tick(0, 0, LIMIT, TOP)]))
        second = answers(calls)
        self.assertEqual(second, expected)
        first.clear()
        self.assertEqual(second, expected)
        self.assertEqual(answers(calls), expected)

    def test_each_object_is_new(self):
        self.assertEqual(answers(START + tick(99, 299)), [1, 0, 5, 0, 15, 15, 0, 0])
        self.assertEqual(answers(START + tick()), [1, 0, 5, 0, 0, 0, 0, 0])

    def test_nothing_is_printed(self):
        said = io.StringIO()
        with contextlib.redirect_stdout(said), contextlib.redirect_stderr(said):
            answers(mixed_line(256))
        self.assertEqual(said.getvalue(), "")

    def test_long_lines_are_gone_through_by_loops(self):
        calls = mixed_line(256)
        expected = answers(calls)
        before = sys.getrecursionlimit()
        sys.setrecursionlimit(len(inspect.stack(0)) + 50)
        try:
            given = answers(calls)
        finally:
            sys.setrecursionlimit(before)
        self.assertIsNone(difference(given, expected))


if __name__ == "__main__":
    unittest.main()
