"""Promise 2: signals."""

import unittest

from written import GREATEST, LEAST, TOP, ask, signals, start, start_at_turn, turn_to, where


class Ordinary(unittest.TestCase):
    def test_walk_on_and_back(self):
        given = ask(start(0, 0, 0), signals(0, 1), signals(1, 1), signals(1, 0), signals(0, 0), where(),
                    signals(1, 0), signals(1, 1), signals(0, 1), signals(0, 0), where())
        self.assertEqual(given, [[0], [1], [1], [1], [1], [0, 4, 0, 4],
                                 [2], [2], [2], [2], [0, 0, 0, 4]])

    def test_every_turn_to_every_turn(self):
        answer_by_apart = {0: 0, 1: 1, 2: -5, 3: 2}
        for turn in range(4):
            for apart, answer in answer_by_apart.items():
                self.assertEqual(ask(start_at_turn(turn, 20), turn_to(turn + apart)), [[0], [answer]])


class Edges(unittest.TestCase):
    def test_turn_from_3_to_0_is_one_on(self):
        self.assertEqual(ask(start(1, 0, 0), signals(0, 0), where()), [[0], [1], [0, 1, 0, 1]])

    def test_turn_from_0_to_3_is_one_back(self):
        self.assertEqual(ask(start(0, 0, 0), signals(1, 0), where()), [[0], [2], [0, -1, -1, 0]])

    def test_trembling_at_one_place(self):
        for turn in range(4):
            calls = [start_at_turn(turn, 6)]
            for beat in range(50):
                calls += [turn_to(turn + 1), turn_to(turn)]
            given = ask(*calls, where())
            self.assertEqual(given, [[0]] + [[1], [2]] * 50 + [[0, 6, 6, 7]])

    def test_nothing_new(self):
        for turn in range(4):
            given = ask(start_at_turn(turn, 6), turn_to(turn), turn_to(turn), where(),
                        turn_to(turn + 1), turn_to(turn + 1), turn_to(turn + 1), where())
            self.assertEqual(given, [[0], [0], [0], [0, 6, 6, 6], [1], [0], [0], [0, 7, 6, 7]])

    def test_two_changes_at_once_and_what_is_told_behind_them(self):
        for turn in range(4):
            for later in range(4):
                given = ask(start_at_turn(turn, 6), turn_to(turn + 2), where(), turn_to(later), turn_to(later),
                            turn_to(later + 1), where(), start_at_turn(later, 2), turn_to(later + 1), where())
                self.assertEqual(given, [[0], [-5], [-5], [-5], [-5], [-5], [-5], [0], [1], [0, 3, 2, 3]])

    def test_two_changes_at_once_behind_a_walk(self):
        given = ask(start(0, 0, 0), signals(0, 1), signals(1, 1), signals(0, 0), signals(0, 1), where())
        self.assertEqual(given, [[0], [1], [1], [-5], [-5], [-5]])

    def test_onto_the_outermost_places(self):
        for turn in range(4):
            given = ask(start_at_turn(turn, GREATEST - 1), turn_to(turn + 1), turn_to(turn + 1), where(),
                        turn_to(turn), where())
            self.assertEqual(given, [[0], [1], [0], [0, GREATEST, GREATEST - 1, GREATEST],
                                     [2], [0, GREATEST - 1, GREATEST - 1, GREATEST]])
            given = ask(start_at_turn(turn, LEAST + 1), turn_to(turn - 1), turn_to(turn - 1), where(),
                        turn_to(turn), where())
            self.assertEqual(given, [[0], [2], [0], [0, LEAST, LEAST, LEAST + 1],
                                     [1], [0, LEAST + 1, LEAST, LEAST + 1]])

    def test_a_step_beyond_the_outermost_places(self):
        for at, step in ((GREATEST, 1), (LEAST, -1)):
            for turn in range(4):
                for later in range(4):
                    given = ask(start_at_turn(turn, at), turn_to(turn + step), where(), turn_to(later), where(),
                                start_at_turn(later, at), turn_to(later - step), where())
                    inner = at - step
                    self.assertEqual(given, [[0], [-5], [-5], [-5], [-5], [0], [2 if step == 1 else 1],
                                             [0, inner, min(at, inner), max(at, inner)]])

    def test_two_changes_at_once_at_the_outermost_places(self):
        for at in (LEAST, GREATEST):
            self.assertEqual(ask(start(0, 1, at), signals(1, 0), where()), [[0], [-5], [-5]])


class Wrong(unittest.TestCase):
    REFUSED = [
        signals(2, 0), signals(0, 2), signals(2, 1), signals(1, 2), signals(2, 2), signals(3, 0), signals(4, 4),
        signals(TOP, 0), signals(0, TOP), signals(TOP, 1), signals(1, TOP), signals(TOP, TOP),
        signals(4294967294, 0), signals(0, 2147483648),
    ]

    def test_refused_signals_leave_it_as_it_was(self):
        ahead = [start(0, 0, 10), signals(0, 1), signals(0, 0), signals(1, 0)]
        for refused in self.REFUSED:
            given = ask(*ahead, refused, where(), signals(1, 0), signals(0, 0), where())
            self.assertEqual(given[4:], [[-22], [0, 9, 9, 11], [0], [1], [0, 10, 9, 11]], refused)

    def test_wrong_signals_are_told_ahead_of_an_unknown_place(self):
        for refused in self.REFUSED:
            given = ask(start(0, 0, 10), signals(1, 1), refused, where(), signals(0, 0), refused)
            self.assertEqual(given, [[0], [-5], [-22], [-5], [-5], [-22]], refused)

    def test_wrong_signals_at_the_outermost_places(self):
        for at in (LEAST, GREATEST):
            for refused in self.REFUSED:
                given = ask(start(0, 0, at), refused, where(), signals(0, 0))
                self.assertEqual(given, [[0], [-22], [0, at, at, at], [0]], refused)


if __name__ == "__main__":
    unittest.main()
