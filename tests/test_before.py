import unittest

from helper import COUNTING, KEEPING, TURNING, one_turning, rules_for, some_rules, told_before, way_then_round
from towerflags.turns import before, next_state


class OrdinaryStates(unittest.TestCase):
    def check_all(self, n, t, expected):
        self.assertEqual([before(n, s, t) for s in range(2 ** n)], expected, (n, t))

    def test_one_tower_has_four_rules(self):
        self.check_all(1, [0], [[2, 0, 1], [0]])
        self.check_all(1, [1], [[1, 1], [1, 0]])
        self.check_all(1, [2], [[1, 0], [1, 1]])
        self.check_all(1, [3], [[0], [2, 0, 1]])

    def test_two_towers(self):
        # 0 comes to 2, 1 to 0, 2 to 1, and 3 to 1.
        self.check_all(2, [12, 1], [[1, 1], [2, 2, 3], [1, 0], [0]])
        # 0 and 3 come to themselves, 1 and 2 to 2.
        self.check_all(2, [8, 14], [[1, 0], [0], [2, 1, 2], [1, 3]])

    def test_three_towers(self):
        # Each tower takes over the flag of the tower before it, the first that of the last.
        self.check_all(3, [240, 170, 204], [[1, 0], [1, 4], [1, 1], [1, 5], [1, 2], [1, 6], [1, 3], [1, 7]])

    def test_four_towers(self):
        # 0 comes to 5, 1 to 7 come to 0, 8 to 14 to 8, and 15 to 14.
        expected = [[0]] * 16
        expected[0] = [7, 1, 2, 3, 4, 5, 6, 7]
        expected[5] = [1, 0]
        expected[8] = [7, 8, 9, 10, 11, 12, 13, 14]
        expected[14] = [1, 15]
        self.check_all(4, [1, 32768, 32769, 65280], expected)

    def test_told_by_the_words(self):
        for n in range(1, 5):
            for t in some_rules(n, 100):
                for s in range(2 ** n):
                    states = told_before(n, s, t)
                    self.assertEqual(before(n, s, t), [len(states)] + states, (n, s, t))


class OfHowMany(unittest.TestCase):
    def test_of_none_one_and_several(self):
        # 0 and 2 come to 1, 1 and 3 to 4, 4 and 5 to 2, 6 to 5, and 7 to 6.
        t = rules_for(3, [1, 4, 1, 4, 2, 2, 5, 6])
        self.assertEqual([before(3, s, t) for s in range(8)], [
            [0], [2, 0, 2], [2, 4, 5], [0], [2, 1, 3], [1, 6], [1, 7], [0],
        ])

    def test_of_all_states_or_of_none(self):
        for n in range(1, 5):
            states = list(range(2 ** n))
            for end in states:
                t = rules_for(n, [end] * 2 ** n)
                for s in states:
                    self.assertEqual(before(n, s, t), [2 ** n] + states if s == end else [0], (n, s, t))

    def test_of_each_number_of_states(self):
        for n in range(1, 5):
            last = 2 ** n - 1
            for many in range(2 ** n + 1):
                # The uppermost states, so many of them, come to the last, and the others to 0.
                t = rules_for(n, [0] * (2 ** n - many) + [last] * many)
                self.assertEqual(before(n, last, t), [many] + list(range(2 ** n - many, 2 ** n)))

    def test_states_two_steps_ahead_are_not_told(self):
        # 3 comes to 2, 2 to 1, 1 to 0, and 0 to itself.
        t = rules_for(2, [0, 0, 1, 2])
        self.assertEqual([before(2, s, t) for s in range(4)], [[2, 0, 1], [1, 2], [1, 3], [0]])

    def test_of_a_way_and_of_a_round(self):
        for n in range(1, 5):
            last = 2 ** n - 1
            for way in range(1, 2 ** n):
                t = way_then_round(n, way)
                self.assertEqual(before(n, 0, t), [0])
                for s in range(1, 2 ** n):
                    self.assertEqual(before(n, s, t), [2, s - 1, last] if s == way else [1, s - 1], (n, s, t))


class WhatHolds(unittest.TestCase):
    def check_each(self, check):
        for n in range(1, 5):
            for t in some_rules(n, 100) + [COUNTING[n], KEEPING[n], TURNING[n], [0] * n]:
                for s in range(2 ** n):
                    check(n, s, t, before(n, s, t))

    def test_count_is_the_number_of_states_told(self):
        def check(n, s, t, answer):
            self.assertEqual(answer[0], len(answer) - 1)
        self.check_each(check)

    def test_states_told_rise_and_stand_once_each(self):
        def check(n, s, t, answer):
            self.assertEqual(answer[1:], sorted(set(answer[1:])))
        self.check_each(check)

    def test_next_state_is_s_of_each_told_and_of_no_other(self):
        def check(n, s, t, answer):
            for state in range(2 ** n):
                self.assertEqual(next_state(n, state, t) == [s], state in answer[1:], (n, s, t, state))
        self.check_each(check)

    def test_each_state_is_told_for_just_one(self):
        for n in range(1, 5):
            for t in some_rules(n, 100):
                told = [state for s in range(2 ** n) for state in before(n, s, t)[1:]]
                self.assertEqual(sorted(told), list(range(2 ** n)), (n, t))


class Corners(unittest.TestCase):
    def test_all_flags_down_for_ever(self):
        for n in range(1, 5):
            self.assertEqual(before(n, 0, [0] * n), [2 ** n] + list(range(2 ** n)))
            for s in range(1, 2 ** n):
                self.assertEqual(before(n, s, [0] * n), [0])

    def test_all_flags_up_for_ever(self):
        for n in range(1, 5):
            last = 2 ** n - 1
            t = [2 ** 2 ** n - 1] * n
            self.assertEqual(before(n, last, t), [2 ** n] + list(range(2 ** n)))
            for s in range(last):
                self.assertEqual(before(n, s, t), [0])

    def test_rule_that_turns_its_own_flag(self):
        for n in range(1, 5):
            for s in range(2 ** n):
                self.assertEqual(before(n, s, TURNING[n]), [1, 2 ** n - 1 - s])

    def test_one_tower_turns_and_the_others_keep_their_flags(self):
        for n in range(1, 5):
            for j in range(n):
                for s in range(2 ** n):
                    self.assertEqual(before(n, s, one_turning(n, j)), [1, s ^ 2 ** j])

    def test_round_of_all_states(self):
        for n in range(1, 5):
            for s in range(2 ** n):
                self.assertEqual(before(n, s, COUNTING[n]), [1, (s - 1) % 2 ** n])

    def test_each_state_comes_of_itself_alone(self):
        for n in range(1, 5):
            for s in range(2 ** n):
                self.assertEqual(before(n, s, KEEPING[n]), [1, s])

    def test_one_state_comes_of_itself_alone(self):
        self.assertEqual([before(2, s, [12, 6]) for s in range(4)], [[1, 0], [1, 3], [1, 1], [1, 2]])


if __name__ == "__main__":
    unittest.main()
