import unittest

from helper import COUNTING, KEEPING, TURNING, mixed_rules, one_turning, told_next
from towerflags.turns import next_state


class OrdinaryStates(unittest.TestCase):
    def check_all(self, n, t, expected):
        answers = [next_state(n, s, t) for s in range(2 ** n)]
        self.assertEqual(answers, [[state] for state in expected], (n, t))

    def test_one_tower_has_four_rules(self):
        self.check_all(1, [0], [0, 0])
        self.check_all(1, [1], [1, 0])
        self.check_all(1, [2], [0, 1])
        self.check_all(1, [3], [1, 1])

    def test_two_towers(self):
        self.check_all(2, [8, 14], [0, 2, 2, 3])
        self.check_all(2, [12, 1], [2, 0, 1, 1])

    def test_three_towers(self):
        # Each tower takes over the flag of the tower before it, the first that of the last.
        self.check_all(3, [240, 170, 204], [0, 2, 4, 6, 1, 3, 5, 7])

    def test_four_towers(self):
        # Tower 0 is up behind 0 alone, tower 1 behind 15 alone, tower 2 behind both, tower 3 behind 8 to 15.
        self.check_all(4, [1, 32768, 32769, 65280], [5] + [0] * 7 + [8] * 7 + [14])

    def test_flags_are_put_all_at_once(self):
        # Each of the two takes over the other's flag: one after the other they would become alike.
        self.check_all(2, [12, 10], [0, 2, 1, 3])

    def test_tower_and_state_of_each_digit(self):
        for n in range(1, 5):
            for j in range(n):
                for up_behind in range(2 ** n):
                    t = [0] * n
                    t[j] = 2 ** up_behind
                    expected = [2 ** j if s == up_behind else 0 for s in range(2 ** n)]
                    self.check_all(n, t, expected)

    def test_every_pair_of_rules_of_two_towers(self):
        for first in range(16):
            for second in range(16):
                t = [first, second]
                self.check_all(2, t, [told_next(2, s, t) for s in range(4)])

    def test_mixed_rules(self):
        for n in range(1, 5):
            for t in mixed_rules(n, 200):
                self.check_all(n, t, [told_next(n, s, t) for s in range(2 ** n)])


class Corners(unittest.TestCase):
    def test_all_flags_down_for_ever(self):
        for n in range(1, 5):
            for s in range(2 ** n):
                self.assertEqual(next_state(n, s, [0] * n), [0])

    def test_all_flags_up_for_ever(self):
        for n in range(1, 5):
            for s in range(2 ** n):
                self.assertEqual(next_state(n, s, [2 ** 2 ** n - 1] * n), [2 ** n - 1])

    def test_rule_that_turns_its_own_flag(self):
        for n in range(1, 5):
            for s in range(2 ** n):
                self.assertEqual(next_state(n, s, TURNING[n]), [2 ** n - 1 - s])

    def test_one_tower_turns_and_the_others_keep_their_flags(self):
        for n in range(1, 5):
            for j in range(n):
                t = one_turning(n, j)
                for s in range(2 ** n):
                    self.assertEqual(next_state(n, s, t), [s ^ 2 ** j])

    def test_round_of_all_states(self):
        for n in range(1, 5):
            for s in range(2 ** n):
                self.assertEqual(next_state(n, s, COUNTING[n]), [(s + 1) % 2 ** n])

    def test_each_state_comes_of_itself_alone(self):
        for n in range(1, 5):
            for s in range(2 ** n):
                self.assertEqual(next_state(n, s, KEEPING[n]), [s])

    def test_one_state_comes_of_itself_alone(self):
        answers = [next_state(2, s, [12, 6]) for s in range(4)]
        self.assertEqual(answers, [[0], [2], [3], [1]])


if __name__ == "__main__":
    unittest.main()
