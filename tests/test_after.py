import unittest

from helper import COUNTING, KEEPING, TURNING, mixed_rules, told_after
from towerflags.turns import after, next_state


class OrdinarySteps(unittest.TestCase):
    def check_steps(self, n, s, t, expected):
        answers = [after(n, s, k, t) for k in range(len(expected))]
        self.assertEqual(answers, [[state] for state in expected], (n, s, t))

    def test_one_tower(self):
        self.check_steps(1, 0, [1], [0, 1, 0, 1, 0])
        self.check_steps(1, 1, [0], [1, 0, 0, 0])
        self.check_steps(1, 0, [3], [0, 1, 1, 1])

    def test_two_towers(self):
        self.check_steps(2, 0, [12, 1], [0, 2, 1, 0, 2, 1, 0])
        self.check_steps(2, 3, [12, 1], [3, 1, 0, 2, 1, 0])
        self.check_steps(2, 1, [12, 10], [1, 2, 1, 2])

    def test_three_towers(self):
        self.check_steps(3, 1, [240, 170, 204], [1, 2, 4, 1, 2, 4, 1])
        self.check_steps(3, 6, [240, 170, 204], [6, 5, 3, 6])

    def test_four_towers(self):
        self.check_steps(4, 7, [1, 32768, 32769, 65280], [7, 0, 5, 0, 5])
        self.check_steps(4, 15, [1, 32768, 32769, 65280], [15, 14, 8, 8, 8])

    def test_mixed_rules(self):
        for n in range(1, 5):
            for t in mixed_rules(n, 12):
                for s in range(2 ** n):
                    for k in (0, 1, 2, 3, 5, 8, 15, 16, 17, 100, 999, 1000):
                        self.assertEqual(after(n, s, k, t), [told_after(n, s, k, t)], (n, s, k, t))


class EdgesOfK(unittest.TestCase):
    def test_no_step_is_the_state_itself(self):
        for n in range(1, 5):
            for t in mixed_rules(n, 10):
                for s in range(2 ** n):
                    self.assertEqual(after(n, s, 0, t), [s])

    def test_one_step_is_the_next_state(self):
        for n in range(1, 5):
            for t in mixed_rules(n, 10):
                for s in range(2 ** n):
                    self.assertEqual(after(n, s, 1, t), next_state(n, s, t))

    def test_thousand_steps_and_one_less(self):
        for n in range(1, 5):
            for s in range(2 ** n):
                self.assertEqual(after(n, s, 1000, COUNTING[n]), [(s + 1000) % 2 ** n])
                self.assertEqual(after(n, s, 999, COUNTING[n]), [(s + 999) % 2 ** n])


class WhatHolds(unittest.TestCase):
    def test_each_step_goes_on_from_the_one_before(self):
        for n in range(1, 5):
            for t in mixed_rules(n, 10):
                for s in range(2 ** n):
                    for k in range(40):
                        state = after(n, s, k, t)[0]
                        self.assertEqual(after(n, s, k + 1, t), next_state(n, state, t))

    def test_way_and_round_have_no_more_states_than_there_are(self):
        for n in range(1, 5):
            states = 2 ** n
            for t in mixed_rules(n, 25):
                for s in range(states):
                    walk = [after(n, s, k, t)[0] for k in range(3 * states)]
                    seen = walk[:states + 1]
                    second = next(k for k in range(1, states + 1) if seen[k] in seen[:k])
                    way = seen.index(seen[second])
                    size = second - way
                    for k in range(way, 2 * states):
                        self.assertEqual(walk[k], walk[k + size])


class Corners(unittest.TestCase):
    def test_all_flags_down_for_ever(self):
        for n in range(1, 5):
            for s in range(2 ** n):
                self.assertEqual(after(n, s, 0, [0] * n), [s])
                for k in (1, 2, 1000):
                    self.assertEqual(after(n, s, k, [0] * n), [0])

    def test_rule_that_turns_its_own_flag(self):
        for n in range(1, 5):
            for s in range(2 ** n):
                for k in (0, 2, 1000):
                    self.assertEqual(after(n, s, k, TURNING[n]), [s])
                for k in (1, 3, 999):
                    self.assertEqual(after(n, s, k, TURNING[n]), [2 ** n - 1 - s])

    def test_round_of_all_states(self):
        for n in range(1, 5):
            for s in range(2 ** n):
                for k in range(2 * 2 ** n + 1):
                    self.assertEqual(after(n, s, k, COUNTING[n]), [(s + k) % 2 ** n])

    def test_each_state_comes_of_itself_alone(self):
        for n in range(1, 5):
            for s in range(2 ** n):
                for k in (0, 1, 1000):
                    self.assertEqual(after(n, s, k, KEEPING[n]), [s])

    def test_one_state_comes_of_itself_alone(self):
        for k in (0, 1, 2, 3, 1000):
            self.assertEqual(after(2, 0, k, [12, 6]), [0])
        self.assertEqual([after(2, 1, k, [12, 6]) for k in range(5)], [[1], [2], [3], [1], [2]])


if __name__ == "__main__":
    unittest.main()
