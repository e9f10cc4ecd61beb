"""How the tests write calls, read answers and walk a carriage."""

from carriage.desk import answers

LEAST = -1073741824
GREATEST = 1073741824
TOP = 4294967295

# The signals of the turns 0, 1, 2, 3.
PAIRS = [(0, 0), (0, 1), (1, 1), (1, 0)]


def start(a, b, at):
    return [0, a, b, at]


def signals(a, b):
    return [1, a, b]


def where():
    return [2]


def start_at_turn(turn, at):
    a, b = PAIRS[turn % 4]
    return start(a, b, at)


def turn_to(turn):
    a, b = PAIRS[turn % 4]
    return signals(a, b)


def in_one_list(calls):
    return [number for call in calls for number in call]


def split_answers(given):
    """The answers call by call; fails where a count doesn't fit what follows it."""
    split = []
    begin = 0
    while begin < len(given):
        count = given[begin]
        answer = given[begin + 1:begin + 1 + count]
        if count < 1 or len(answer) != count:
            raise AssertionError("count %r at %d in %r" % (count, begin, given))
        split.append(answer)
        begin += 1 + count
    return split


def ask(*calls):
    return split_answers(answers(in_one_list(calls)))
