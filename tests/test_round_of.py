import unittest

from helper import COUNTING, KEEPING, TURNING, one_turning, rules_for, some_rules, told_round, told_way, way_then_round
from towerflags.turns import after, next_state, round_of


class OrdinaryRounds(unittest.TestCase):
    def check_all(self, n, t, expected):
        self.assertEqual([round_of(n, s, t) for s in range(2 ** n)], expected, (n, t))

    def test_one_tower_has_four_rules(self):
        self.check_all(1, [0], [[0, 1, 0], [1, 1, 0]])
        self.check_all(1, [1], [[0, 2, 0, 1], [0, 2, 1, 0]])
        self.check_all(1, [2], [[0, 1, 0], [0, 1, 1]])
        self.check_all(1, [3], [[1, 1, 1], [0, 1, 1]])

    def test_two_towers(self):
        # 0 comes to 2, 1 to 0, 2 to 1, and 3 to 1.
        self.check_all(2, [12, 1], [[0, 3, 0, 2, 1], [0, 3, 1, 0, 2], [0, 3, 2, 1, 0], [1, 3, 1, 0, 2]])
        # 0 and 3 come to themselves, 1 and 2 to 2.
        self.check_all(2, [8, 14], [[0, 1, 0], [1, 1, 2], [0, 1, 2], [0, 1, 3]])

    def test_three_towers(self):
        # Each tower takes over the flag of the tower before it, the first that of the last.
        self.check_all(3, [240, 170, 204], [
            [0, 1, 0], [0, 3, 1, 2, 4], [0, 3, 2, 4, 1], [0, 3, 3, 6, 5],
            [0, 3, 4, 1, 2], [0, 3, 5, 3, 6], [0, 3, 6, 5, 3], [0, 1, 7],
        ])

    def test_four_towers(self):
        # 0 comes to 5, 1 to 7 come to 0, 8 to 14 to 8, and 15 to 14.
        t = [1, 32768, 32769, 65280]
        one_step_away = [1, 2, 0, 5]
        self.check_all(4, t, (
            [[0, 2, 0, 5]] + [one_step_away] * 4 + [[0, 2, 5, 0]] + [one_step_away] * 2
            + [[0, 1, 8]] + [[1, 1, 8]] * 6 + [[2, 1, 8]]
        ))

    def test_told_by_the_words(self):
        for n in range(1, 5):
            for t in some_rules(n, 40):
                for s in range(2 ** n):
                    states = told_round(n, s, t)
                    self.assertEqual(round_of(n, s, t), [told_way(n, s, t), len(states)] + states, (n, s, t))


class WayAndFirstState(unittest.TestCase):
    def test_state_on_its_round_has_no_way_and_is_told_first(self):
        t = way_then_round(3, 4)
        self.assertEqual(round_of(3, 4, t), [0, 4, 4, 5, 6, 7])
        self.assertEqual(round_of(3, 5, t), [0, 4, 5, 6, 7, 4])
        self.assertEqual(round_of(3, 6, t), [0, 4, 6, 7, 4, 5])
        self.assertEqual(round_of(3, 7, t), [0, 4, 7, 4, 5, 6])

    def test_round_is_told_from_where_the_state_comes_there(self):
        # The round is 1, 4, 2; 0 comes there with 1, 3 with 4, 5 with 2, and 6 and 7 by way of 5.
        t = rules_for(3, [1, 4, 1, 4, 2, 2, 5, 6])
        self.assertEqual(round_of(3, 0, t), [1, 3, 1, 4, 2])
        self.assertEqual(round_of(3, 3, t), [1, 3, 4, 2, 1])
        self.assertEqual(round_of(3, 5, t), [1, 3, 2, 1, 4])
        self.assertEqual(round_of(3, 6, t), [2, 3, 2, 1, 4])
        self.assertEqual(round_of(3, 7, t), [3, 3, 2, 1, 4])

    def test_longest_way(self):
        for n in range(1, 5):
            last = 2 ** n - 1
            self.assertEqual(round_of(n, 0, way_then_round(n, last)), [last, 1, last])
            falling = rules_for(n, [0] + list(range(last)))
            for s in range(2 ** n):
                self.assertEqual(round_of(n, s, falling), [s, 1, 0])

    def test_way_and_round_of_all_states_together(self):
        for n in range(1, 5):
            states = 2 ** n
            for way in range(states):
                t = way_then_round(n, way)
                for s in range(way + 1):
                    self.assertEqual(round_of(n, s, t), [way - s, states - way] + list(range(way, states)))

    def test_states_of_several_rounds_come_to_their_own(self):
        # 0 and 1 go round, 2 and 3 stay, and 4, 5, 6, 7 come to 3, 2, 1 and 0.
        t = rules_for(3, [1, 0, 2, 3, 3, 2, 1, 0])
        self.assertEqual([round_of(3, s, t) for s in range(8)], [
            [0, 2, 0, 1], [0, 2, 1, 0], [0, 1, 2], [0, 1, 3],
            [1, 1, 3], [1, 1, 2], [1, 2, 1, 0], [1, 2, 0, 1],
        ])


class WhatHolds(unittest.TestCase):
    def check_each(self, check):
        for n in range(1, 5):
            for t in some_rules(n, 40) + [COUNTING[n], way_then_round(n, 2 ** n - 1)]:
                for s in range(2 ** n):
                    check(n, s, t, round_of(n, s, t))

    def test_size_is_the_number_of_states_told_each_once(self):
        def check(n, s, t, answer):
            self.assertEqual(answer[1], len(answer) - 2)
            self.assertGreaterEqual(answer[1], 1)
            self.assertEqual(len(set(answer[2:])), answer[1])
        self.check_each(check)

    def test_way_and_round_have_no_more_states_than_there_are(self):
        def check(n, s, t, answer):
            self.assertLessEqual(answer[0] + answer[1], 2 ** n)
        self.check_each(check)

    def test_round_goes_on_by_next_state_and_comes_back(self):
        def check(n, s, t, answer):
            states = answer[2:]
            self.assertEqual([next_state(n, state, t)[0] for state in states], states[1:] + states[:1])
        self.check_each(check)

    def test_way_leads_to_the_state_told_first_and_not_there_sooner(self):
        def check(n, s, t, answer):
            way = answer[0]
            self.assertEqual(after(n, s, way, t), answer[2:3])
            for k in range(way):
                self.assertNotIn(after(n, s, k, t)[0], answer[2:])
        self.check_each(check)

    def test_next_state_comes_to_the_same_round(self):
        def check(n, s, t, answer):
            behind = round_of(n, next_state(n, s, t)[0], t)
            if answer[0] > 0:
                self.assertEqual(behind, [answer[0] - 1] + answer[1:])
            else:
                self.assertEqual(behind, answer[:2] + answer[3:] + answer[2:3])
        self.check_each(check)


class Corners(unittest.TestCase):
    def test_all_flags_down_for_ever(self):
        for n in range(1, 5):
            self.assertEqual(round_of(n, 0, [0] * n), [0, 1, 0])
            for s in range(1, 2 ** n):
                self.assertEqual(round_of(n, s, [0] * n), [1, 1, 0])

    def test_all_flags_up_for_ever(self):
        for n in range(1, 5):
            last = 2 ** n - 1
            t = [2 ** 2 ** n - 1] * n
            self.assertEqual(round_of(n, last, t), [0, 1, last])
            for s in range(last):
                self.assertEqual(round_of(n, s, t), [1, 1, last])

    def test_rule_that_turns_its_own_flag(self):
        for n in range(1, 5):
            for s in range(2 ** n):
                self.assertEqual(round_of(n, s, TURNING[n]), [0, 2, s, 2 ** n - 1 - s])

    def test_one_tower_turns_and_the_others_keep_their_flags(self):
        for n in range(1, 5):
            for j in range(n):
                t = one_turning(n, j)
                for s in range(2 ** n):
                    self.assertEqual(round_of(n, s, t), [0, 2, s, s ^ 2 ** j])

    def test_round_of_all_states(self):
        for n in range(1, 5):
            states = list(range(2 ** n))
            for s in states:
                self.assertEqual(round_of(n, s, COUNTING[n]), [0, 2 ** n] + states[s:] + states[:s])

    def test_each_state_comes_of_itself_alone(self):
        for n in range(1, 5):
            for s in range(2 ** n):
                self.assertEqual(round_of(n, s, KEEPING[n]), [0, 1, s])

    def test_one_state_comes_of_itself_alone(self):
        self.assertEqual(round_of(2, 0, [12, 6]), [0, 1, 0])
        self.assertEqual(round_of(2, 1, [12, 6]), [0, 3, 1, 2, 3])


if __name__ == "__main__":
    unittest.main()
