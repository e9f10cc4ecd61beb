"""What holds over the whole program, and what the interface says of the list."""

import itertools
import unittest

from carriage.desk import answers
from written import GREATEST, LEAST, PAIRS, TOP, ask, in_one_list, signals, split_answers, start
from written import start_at_turn, turn_to, where

MIXED = in_one_list([
    start(2, 0, 0), start(0, 0, GREATEST), where(), signals(1, 0), signals(TOP, 0), where(), signals(0, 0),
    signals(0, 1), where(), start(1, 1, -1), signals(0, 1), signals(0, 1), signals(1, 0), where(),
    start(0, 0, LEAST - 1),
])
MIXED_ANSWERS = [
    1, -22, 1, 0, 4, 0, GREATEST, GREATEST, GREATEST, 1, 2, 1, -22, 4, 0, GREATEST - 1, GREATEST - 1, GREATEST, 1, 1,
    1, -5, 1, -5, 1, 0, 1, 2, 1, 0, 1, -5, 1, -5, 1, -22,
]


class Untouched(list):
    """A list that fails at once if somebody changes it, for a while or for good."""

    def refuse(self, *given, **named):
        raise AssertionError("what was handed in is changed")

    append = extend = insert = remove = pop = clear = sort = reverse = refuse
    __setitem__ = __delitem__ = __iadd__ = __imul__ = refuse


class TheList(unittest.TestCase):
    def test_answers_stand_one_behind_another_each_behind_its_count(self):
        self.assertEqual(answers(MIXED), MIXED_ANSWERS)
        self.assertEqual(answers([0, 0, 0, 10, 1, 0, 1, 1, 0, 0, 2]), [1, 0, 1, 1, 1, 2, 4, 0, 10, 10, 11])

    def test_answers_are_a_list_of_whole_numbers(self):
        given = answers(MIXED)
        self.assertIs(type(given), list)
        for number in given:
            self.assertIs(type(number), int)

    def test_what_is_handed_in_is_as_it_was(self):
        calls = list(MIXED)
        answers(calls)
        self.assertEqual(calls, MIXED)

    def test_what_is_handed_in_is_not_changed_for_a_while(self):
        self.assertEqual(answers(Untouched(MIXED)), MIXED_ANSWERS)

    def test_each_time_is_as_if_the_first(self):
        first = answers(MIXED)
        second = answers(MIXED)
        self.assertEqual(first, second)
        self.assertIsNot(first, second)
        first.clear()
        self.assertEqual(answers(MIXED), second)

    def test_another_list_between_changes_nothing(self):
        alone = answers([0, 1, 0, 5, 1, 0, 0, 2])
        answers([0, 0, 0, -9, 1, 1, 1, 2])
        self.assertEqual(answers([0, 1, 0, 5, 1, 0, 0, 2]), alone)

    def test_longest_list(self):
        calls = [start(0, 0, 0)] + [turn_to(step) for step in range(1, 4999)] + [where()]
        self.assertEqual(len(calls), 5000)
        # assertTrue, since to show how two lists of this length differ takes very long.
        self.assertTrue(ask(*calls) == [[0]] + [[1]] * 4998 + [[0, 4998, 0, 4998]])
        self.assertTrue(ask(*[start(1, 0, 7)] * 5000) == [[0]] * 5000)
        self.assertTrue(ask(start(1, 0, 7), *[where()] * 4999) == [[0]] + [[0, 7, 7, 7]] * 4999)


class WhatHolds(unittest.TestCase):
    def test_every_short_walk(self):
        answer_by_step = {0: 0, 1: 1, -1: 2}
        for turn in range(4):
            for at in (0, -2, 100):
                for steps in itertools.product((0, 1, -1), repeat=5):
                    places = [at + sum(steps[:count]) for count in range(6)]
                    calls = [start_at_turn(turn, at)] + [turn_to(turn + place - at) for place in places[1:]]
                    given = ask(*calls, where())
                    self.assertEqual(given[1:-1], [[answer_by_step[step]] for step in steps])
                    self.assertEqual(given[-1], [0, places[-1], min(places), max(places)])

    def test_every_short_row_of_signals(self):
        for row in itertools.product(PAIRS, repeat=5):
            calls = [start(*row[0], 3)] + [signals(*pair) for pair in row[1:]]
            both = [(one[0] != two[0]) and (one[1] != two[1]) for one, two in zip(row, row[1:])]
            lost_from = both.index(True) if True in both else len(both)
            given = ask(*calls, where())
            told = [answer[0] for answer in given[1:-1]]
            self.assertNotIn(-5, told[:lost_from])
            self.assertEqual(told[lost_from:], [-5] * (len(both) - lost_from))
            self.assertEqual(given[-1][0], -5 if True in both else 0)

    def test_turn_fits_the_place(self):
        for first in range(4):
            for row in itertools.product((1, -1), repeat=6):
                given = ask(start_at_turn(first, -1), *[turn_to(first + sum(row[:count + 1])) for count in range(6)],
                            where())
                turn = (first + given[-1][1] + 1) % 4
                self.assertEqual(PAIRS[turn], PAIRS[(first + sum(row)) % 4])

    def test_back_the_way_it_came(self):
        there = [1, 1, 2, 3, 4, 4, 3, 4, 5, 6, 7, 6, 5, 4, 3, 2, 1, 0, -1, -2, -3]
        for first in range(4):
            turns = [first + turn for turn in there]
            given = ask(start_at_turn(first, 40), *[turn_to(turn) for turn in turns], where(),
                        *[turn_to(turn) for turn in turns[::-1]], turn_to(first), where())
            self.assertEqual(given[len(turns) + 1], [0, 37, 37, 47])
            self.assertEqual(given[-1], [0, 40, 37, 47])


class TheHelper(unittest.TestCase):
    def test_counts_that_do_not_fit_are_seen(self):
        for given in ([0], [2, 0], [1, 0, 4, 0, 1, 1]):
            with self.assertRaises(AssertionError):
                split_answers(given)


if __name__ == "__main__":
    unittest.main()
