"""What the tests share: lines of calls, put together and asked."""

from crewair.valves import answers

TOP = 4294967295
LIMIT = 1073741824

REFUSED = [-22]
STARTED = [0]

ORDER = ("low", "high", "nlow", "nhigh", "least", "most", "turn")
PLAIN = {"low": 100, "high": 200, "nlow": 300, "nhigh": 400, "least": 50, "most": 70, "turn": 10}


def start(**changed):
    unknown = set(changed) - set(ORDER)
    if unknown:
        raise ValueError(f"no such number: {sorted(unknown)}")
    numbers = {**PLAIN, **changed}
    return [0, 7] + [numbers[name] for name in ORDER]


def tick(oxygen=150, nitrogen=350, breathed=0, now=0):
    """A tick; where nothing else is said, its amounts leave PLAIN's valves as they were."""
    return [1, now, 3, oxygen, nitrogen, breathed]


def joined(calls):
    return [number for call in calls for number in call]


def split(given):
    """The answers one by one, by the counts ahead of them."""
    parts = []
    at = 0
    while at < len(given):
        end = at + 1 + given[at]
        if given[at] not in (1, 5) or end > len(given):
            raise AssertionError(f"a wrong count at {at} in {given}")
        parts.append(given[at + 1:end])
        at = end
    return parts


def asked(*calls):
    """Ask a line of calls; give back each one's answer."""
    parts = split(answers(joined(calls)))
    if len(parts) != len(calls):
        raise AssertionError(f"{len(calls)} calls, {len(parts)} answers")
    return parts
