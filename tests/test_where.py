"""Promise 3: where."""

import unittest

from written import GREATEST, LEAST, ask, signals, start, start_at_turn, turn_to, where


def walk(turn, at, steps):
    calls = [start_at_turn(turn, at), where()]
    for step in steps:
        turn += step
        calls += [turn_to(turn), where()]
    return ask(*calls)[1::2]


class Ordinary(unittest.TestCase):
    def test_least_and_greatest_so_far(self):
        self.assertEqual(walk(0, 2, [1, 1, -1, -1, -1, 1, 1, 1, 1]), [
            [0, 2, 2, 2], [0, 3, 2, 3], [0, 4, 2, 4], [0, 3, 2, 4], [0, 2, 2, 4], [0, 1, 1, 4],
            [0, 2, 1, 4], [0, 3, 1, 4], [0, 4, 1, 4], [0, 5, 1, 5]])

    def test_asking_changes_nothing(self):
        given = ask(start(1, 1, 3), where(), where(), signals(1, 0), where(), where(), signals(1, 0))
        self.assertEqual(given, [[0], [0, 3, 3, 3], [0, 3, 3, 3], [1], [0, 4, 3, 4], [0, 4, 3, 4], [0]])


class Edges(unittest.TestCase):
    def test_least_place_below_0(self):
        self.assertEqual(walk(0, 1, [-1, -1, -1, 1]), [
            [0, 1, 1, 1], [0, 0, 0, 1], [0, -1, -1, 1], [0, -2, -2, 1], [0, -1, -2, 1]])

    def test_greatest_place_below_0(self):
        self.assertEqual(walk(3, -5, [-1, 1, 1, -1]), [
            [0, -5, -5, -5], [0, -6, -6, -5], [0, -5, -6, -5], [0, -4, -6, -4], [0, -5, -6, -4]])

    def test_outermost_places(self):
        self.assertEqual(walk(2, GREATEST - 1, [1]), [
            [0, GREATEST - 1, GREATEST - 1, GREATEST - 1], [0, GREATEST, GREATEST - 1, GREATEST]])
        self.assertEqual(walk(2, LEAST + 1, [-1]), [
            [0, LEAST + 1, LEAST + 1, LEAST + 1], [0, LEAST, LEAST, LEAST + 1]])


class NotKnown(unittest.TestCase):
    def test_till_a_start_is_answered_0(self):
        given = ask(start(0, 0, 1), signals(1, 1), where(), where(), start(0, 2, 1), where(),
                    start(0, 0, GREATEST + 1), where(), signals(0, 1), where(), start(0, 0, 1), where())
        self.assertEqual(given, [[0], [-5], [-5], [-5], [-22], [-5], [-22], [-5], [-5], [-5], [0], [0, 1, 1, 1]])


if __name__ == "__main__":
    unittest.main()
