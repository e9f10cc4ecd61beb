"""Promise 1: start."""

import unittest

from written import GREATEST, LEAST, PAIRS, TOP, ask, signals, start, start_at_turn, turn_to, where


class Ordinary(unittest.TestCase):
    def test_place_least_and_greatest_are_where_it_starts(self):
        for a, b in PAIRS:
            for at in (0, 1, 7, -1, -250):
                self.assertEqual(ask(start(a, b, at), where()), [[0], [0, at, at, at]])

    def test_signals_are_those_of_the_start(self):
        for turn in range(4):
            self.assertEqual(ask(start_at_turn(turn, 5), turn_to(turn), where()), [[0], [0], [0, 5, 5, 5]])
            self.assertEqual(ask(start_at_turn(turn, 5), turn_to(turn + 1), where()), [[0], [1], [0, 6, 5, 6]])
            self.assertEqual(ask(start_at_turn(turn, 5), turn_to(turn - 1), where()), [[0], [2], [0, 4, 4, 5]])

    def test_start_again_forgets_what_was(self):
        given = ask(start(0, 0, 10), signals(0, 1), signals(0, 0), signals(1, 0), where(),
                    start(1, 1, -3), where(), signals(1, 0), where())
        self.assertEqual(given[4:], [[0, 9, 9, 11], [0], [0, -3, -3, -3], [1], [0, -2, -3, -2]])

    def test_start_again_with_other_signals_is_no_move(self):
        self.assertEqual(ask(start(0, 0, 4), start(1, 1, 4), where()), [[0], [0], [0, 4, 4, 4]])

    def test_start_makes_it_known_again(self):
        given = ask(start(0, 0, 4), signals(1, 1), start(0, 1, 8), where(), signals(1, 1), where())
        self.assertEqual(given, [[0], [-5], [0], [0, 8, 8, 8], [1], [0, 9, 8, 9]])


class Edges(unittest.TestCase):
    def test_least_and_greatest_number_that_is_a_place(self):
        for at in (LEAST, LEAST + 1, GREATEST - 1, GREATEST):
            self.assertEqual(ask(start(0, 1, at), where()), [[0], [0, at, at, at]])

    def test_list_of_refused_starts_alone(self):
        self.assertEqual(ask(start(2, 0, 0)), [[-22]])
        self.assertEqual(ask(start(2, 0, 0), start(0, 0, GREATEST + 1)), [[-22], [-22]])

    def test_refused_start_ahead_of_the_first(self):
        given = ask(start(0, 2, 3), start(1, 0, LEAST - 1), start(1, 0, 3), where(), signals(0, 0), where())
        self.assertEqual(given, [[-22], [-22], [0], [0, 3, 3, 3], [1], [0, 4, 3, 4]])


class Wrong(unittest.TestCase):
    REFUSED = [
        start(2, 0, 0), start(0, 2, 0), start(2, 2, 0), start(1, 2, 0), start(2, 1, 0), start(3, 0, 0),
        start(TOP, 0, 0), start(0, TOP, 0), start(TOP, TOP, 0), start(4294967294, 1, 0),
        start(0, 0, GREATEST + 1), start(0, 0, LEAST - 1), start(1, 1, 2147483647), start(1, 1, -2147483648),
        start(2, 0, GREATEST + 1), start(0, TOP, LEAST - 1),
    ]

    def test_refused_on_a_new_object(self):
        for refused in self.REFUSED:
            self.assertEqual(ask(refused), [[-22]], refused)

    def test_refused_start_leaves_it_as_it_was(self):
        ahead = [start(0, 0, 10), signals(0, 1), signals(0, 0), signals(1, 0)]
        for refused in self.REFUSED:
            given = ask(*ahead, refused, where(), signals(1, 0), signals(0, 0), where())
            self.assertEqual(given[4:], [[-22], [0, 9, 9, 11], [0], [1], [0, 10, 9, 11]], refused)

    def test_refused_start_does_not_make_it_known(self):
        for refused in self.REFUSED:
            given = ask(start(0, 0, 10), signals(1, 1), refused, where(), signals(0, 0), where())
            self.assertEqual(given, [[0], [-5], [-22], [-5], [-5], [-5]], refused)


if __name__ == "__main__":
    unittest.main()
