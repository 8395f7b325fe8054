"""Steers a closed room's gas valves and beds, call by call."""

AR_START = 0

DONE = 0
REFUSED = -22

# 2^30, the highest amount that is taken, seen or set.
MOST_AMOUNT = 1073741824
MOST_TURN = 65535

# One bit for each of a gas's four valves.
ALL_OPENED = 15
ALL_SHUT = 0

BEDS = 3


def some_above(numbers, limit):
    for number in numbers:
        if number > limit:
            return True
    return False


def is_refused_setting(numbers):
    turn = numbers[6]
    return (
        numbers[0] > numbers[1]
        or numbers[2] > numbers[3]
        or turn < 1
        or turn > MOST_TURN
        or some_above(numbers[:6], MOST_AMOUNT)
    )


def steered(before, amount, low, high):
    if amount < low:
        return ALL_OPENED
    if amount > high:
        return ALL_SHUT
    # At low, at high and between, nothing moves: so valves don't flutter round one amount.
    return before


class Air:
    def __init__(self):
        # These stand only until the first ar_start, which a line always begins with.
        self.low = 0
        self.high = 0
        self.nlow = 0
        self.nhigh = 0
        self.least = 0
        self.most = 0
        self.turn = 1
        self.oxygen = ALL_SHUT
        self.nitrogen = ALL_SHUT

    def ar_start(self, numbers):
        # Refused before anything is stored: a refusal leaves the object as it was.
        if is_refused_setting(numbers):
            return [REFUSED]
        self.low = numbers[0]
        self.high = numbers[1]
        self.nlow = numbers[2]
        self.nhigh = numbers[3]
        self.least = numbers[4]
        self.most = numbers[5]
        self.turn = numbers[6]
        self.oxygen = ALL_SHUT
        self.nitrogen = ALL_SHUT
        return [DONE]

    def ar_tick(self, seen, now):
        if some_above(seen, MOST_AMOUNT):
            return [REFUSED]
        self.oxygen = steered(self.oxygen, seen[0], self.low, self.high)
        self.nitrogen = steered(self.nitrogen, seen[1], self.nlow, self.nhigh)
        return [DONE, self.oxygen, self.nitrogen, self.bed_at(now), self.alarm_for(seen)]

    def bed_at(self, now):
        # Reckoned from now alone, not counted on: ticks may be missing, or go back.
        return now // self.turn % BEDS

    def alarm_for(self, seen):
        if seen[0] < self.least or seen[2] > self.most:
            return 1
        return 0


def counted_row(calls, count_at):
    first = count_at + 1
    return calls[first:first + calls[count_at]]


def answers(calls):
    """Give back, for each of the calls on a new object, how many numbers it answers, and these."""
    air = Air()
    given = []
    at = 0
    while at < len(calls):
        if calls[at] == AR_START:
            count_at = at + 1
            row = counted_row(calls, count_at)
            answer = air.ar_start(row)
        else:
            # An ar_tick has its whole number, now, ahead of its row.
            count_at = at + 2
            row = counted_row(calls, count_at)
            answer = air.ar_tick(row, calls[at + 1])
        given.append(len(answer))
        given.extend(answer)
        at = count_at + 1 + len(row)
    return given
