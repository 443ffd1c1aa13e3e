import unittest

from helper import COUNTING, KEEPING, TURNING, one_turning, rules_for, some_rules, told_gardens, way_then_round
from towerflags.turns import before, gardens


class OrdinaryGardens(unittest.TestCase):
    def test_one_tower_has_four_rules(self):
        self.assertEqual(gardens(1, [0]), [1, 1])
        self.assertEqual(gardens(1, [1]), [0])
        self.assertEqual(gardens(1, [2]), [0])
        self.assertEqual(gardens(1, [3]), [1, 0])

    def test_two_towers(self):
        # 0 comes to 2, 1 to 0, 2 to 1, and 3 to 1.
        self.assertEqual(gardens(2, [12, 1]), [1, 3])
        # 0 and 3 come to themselves, 1 and 2 to 2.
        self.assertEqual(gardens(2, [8, 14]), [1, 1])
        # Each of the two takes over the other's flag.
        self.assertEqual(gardens(2, [12, 10]), [0])

    def test_three_towers(self):
        # Each tower takes over the flag of the tower before it, the first that of the last.
        self.assertEqual(gardens(3, [240, 170, 204]), [0])
        # 0 and 2 come to 1, 1 and 3 to 4, 4 and 5 to 2, 6 to 5, and 7 to 6.
        self.assertEqual(gardens(3, rules_for(3, [1, 4, 1, 4, 2, 2, 5, 6])), [3, 0, 3, 7])

    def test_four_towers(self):
        # 0 comes to 5, 1 to 7 come to 0, 8 to 14 to 8, and 15 to 14.
        expected = [12, 1, 2, 3, 4, 6, 7, 9, 10, 11, 12, 13, 15]
        self.assertEqual(gardens(4, [1, 32768, 32769, 65280]), expected)

    def test_told_by_the_words(self):
        for n in range(1, 5):
            for t in some_rules(n, 200):
                states = told_gardens(n, t)
                self.assertEqual(gardens(n, t), [len(states)] + states, (n, t))


class WhichStates(unittest.TestCase):
    def test_state_at_the_head_of_a_way(self):
        for n in range(1, 5):
            for way in range(1, 2 ** n):
                self.assertEqual(gardens(n, way_then_round(n, way)), [1, 0])

    def test_state_on_a_way_that_comes_of_another_is_not_told(self):
        # 3 comes to 2, 2 to 1, 1 to 0, and 0 to itself: 1 and 2 are on no round, but come of a state.
        self.assertEqual(gardens(2, rules_for(2, [0, 0, 1, 2])), [1, 3])

    def test_all_states_but_one(self):
        for n in range(1, 5):
            for end in range(2 ** n):
                others = [s for s in range(2 ** n) if s != end]
                self.assertEqual(gardens(n, rules_for(n, [end] * 2 ** n)), [2 ** n - 1] + others)

    def test_each_number_of_states(self):
        for n in range(1, 5):
            for many in range(2 ** n):
                # The least states, so many of them, come to the last, and the others to themselves.
                t = rules_for(n, [2 ** n - 1] * many + list(range(many, 2 ** n)))
                self.assertEqual(gardens(n, t), [many] + list(range(many)))


class WhatHolds(unittest.TestCase):
    def check_each(self, check):
        for n in range(1, 5):
            for t in some_rules(n, 200) + [COUNTING[n], KEEPING[n], TURNING[n], [0] * n]:
                check(n, t, gardens(n, t))

    def test_count_is_the_number_of_states_told(self):
        def check(n, t, answer):
            self.assertEqual(answer[0], len(answer) - 1)
        self.check_each(check)

    def test_states_told_rise_and_stand_once_each(self):
        def check(n, t, answer):
            self.assertEqual(answer[1:], sorted(set(answer[1:])))
        self.check_each(check)

    def test_just_those_of_which_before_tells_none(self):
        def check(n, t, answer):
            self.assertEqual(answer[1:], [s for s in range(2 ** n) if before(n, s, t) == [0]], (n, t))
        self.check_each(check)


class Corners(unittest.TestCase):
    def test_all_flags_down_for_ever(self):
        for n in range(1, 5):
            self.assertEqual(gardens(n, [0] * n), [2 ** n - 1] + list(range(1, 2 ** n)))

    def test_all_flags_up_for_ever(self):
        for n in range(1, 5):
            self.assertEqual(gardens(n, [2 ** 2 ** n - 1] * n), [2 ** n - 1] + list(range(2 ** n - 1)))

    def test_rule_that_turns_its_own_flag(self):
        for n in range(1, 5):
            self.assertEqual(gardens(n, TURNING[n]), [0])

    def test_one_tower_turns_and_the_others_keep_their_flags(self):
        for n in range(1, 5):
            for j in range(n):
                self.assertEqual(gardens(n, one_turning(n, j)), [0])

    def test_one_tower_turns_and_the_others_are_down_for_ever(self):
        for n in range(1, 5):
            for j in range(n):
                t = [0] * n
                t[j] = TURNING[n][j]
                others = [s for s in range(2 ** n) if s not in (0, 2 ** j)]
                self.assertEqual(gardens(n, t), [2 ** n - 2] + others)

    def test_round_of_all_states(self):
        for n in range(1, 5):
            self.assertEqual(gardens(n, COUNTING[n]), [0])

    def test_each_state_comes_of_itself_alone(self):
        for n in range(1, 5):
            self.assertEqual(gardens(n, KEEPING[n]), [0])

    def test_one_state_comes_of_itself_alone(self):
        self.assertEqual(gardens(2, [12, 6]), [0])
        # 0 comes of itself alone, and 1, 2, 3 all come to 3.
        self.assertEqual(gardens(2, [14, 14]), [2, 1, 2])


if __name__ == "__main__":
    unittest.main()
