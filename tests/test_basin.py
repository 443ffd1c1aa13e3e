import unittest

from helper import COUNTING, KEEPING, TURNING, one_turning, rules_for, some_rules, told_basins, way_then_round
from towerflags.turns import after, basin, before, next_state, round_of, rounds


class BasinTestCase(unittest.TestCase):
    def check_all(self, n, t, expected):
        self.assertEqual([basin(n, s, t) for s in range(2 ** n)], [[count] for count in expected], (n, t))


class OrdinaryBasins(BasinTestCase):
    def test_one_tower_has_four_rules(self):
        self.check_all(1, [0], [2, 2])
        self.check_all(1, [1], [2, 2])
        self.check_all(1, [2], [1, 1])
        self.check_all(1, [3], [2, 2])

    def test_two_towers(self):
        # 0 comes to 2, 1 to 0, 2 to 1, and 3 to 1.
        self.check_all(2, [12, 1], [4, 4, 4, 4])
        # 0 and 3 come to themselves, 1 and 2 to 2.
        self.check_all(2, [8, 14], [1, 2, 2, 1])

    def test_three_towers(self):
        # Each tower takes over the flag of the tower before it, the first that of the last.
        self.check_all(3, [240, 170, 204], [1, 3, 3, 3, 3, 3, 3, 1])

    def test_four_towers(self):
        # 0 comes to 5, 1 to 7 come to 0, 8 to 14 to 8, and 15 to 14.
        self.check_all(4, [1, 32768, 32769, 65280], [8] * 16)

    def test_told_by_the_words(self):
        for n in range(1, 5):
            for t in some_rules(n, 40):
                self.check_all(n, t, told_basins(n, t))


class RoundAndStatesAhead(BasinTestCase):
    def test_state_on_a_round_and_states_ahead_of_it_answer_alike(self):
        # The round is 1, 4, 2; 0 and 3 come there by one step, 5 too, 6 by two, and 7 by three.
        self.check_all(3, rules_for(3, [1, 4, 1, 4, 2, 2, 5, 6]), [8] * 8)
        for n in range(1, 5):
            for way in range(2 ** n):
                self.check_all(n, way_then_round(n, way), [2 ** n] * 2 ** n)

    def test_several_rounds_at_once(self):
        # 0 and 1 go round, 2 and 3 stay, and 4, 5, 6, 7 come to 3, 2, 1 and 0.
        self.check_all(3, rules_for(3, [1, 0, 2, 3, 3, 2, 1, 0]), [4, 4, 2, 2, 2, 2, 4, 4])
        # 0 comes to 6, which goes round with 7; 1 comes to 4, which goes round with 5; 2 and 3 go round.
        self.check_all(3, rules_for(3, [6, 4, 3, 2, 5, 4, 7, 6]), [3, 3, 2, 2, 3, 3, 3, 3])
        # To the round 0, 14, 6, 11 comes 15, to 1 come 8 and 13, to 2, 12, 7 comes 4, and to 5, 9 come 3 and 10.
        t = rules_for(4, [14, 1, 12, 5, 2, 9, 11, 2, 1, 5, 3, 0, 7, 8, 6, 0])
        self.check_all(4, t, [5, 3, 4, 4, 4, 4, 5, 4, 3, 4, 4, 5, 4, 3, 5, 5])

    def test_each_number_of_states(self):
        for n in range(1, 5):
            for many in range(1, 2 ** n + 1):
                # So many of the least states come to 0 by one another, and the others to themselves.
                t = rules_for(n, [0] + list(range(many - 1)) + list(range(many, 2 ** n)))
                self.check_all(n, t, [many] * many + [1] * (2 ** n - many))

    def test_rounds_of_one_size_with_unlike_basins(self):
        # 0 and 1 go round, 2 and 3 too; 4, 5 and 6 come to 3, and 7 to 0.
        self.check_all(3, rules_for(3, [1, 0, 3, 2, 3, 4, 3, 0]), [3, 3, 5, 5, 5, 5, 5, 3])


class WhatHolds(unittest.TestCase):
    def check_each(self, check):
        for n in range(1, 5):
            for t in some_rules(n, 60) + [COUNTING[n], KEEPING[n], TURNING[n], [0] * n]:
                for s in range(2 ** n):
                    check(n, s, t, basin(n, s, t))

    def test_no_fewer_than_way_and_round_and_no_more_than_all(self):
        def check(n, s, t, answer):
            told = round_of(n, s, t)
            self.assertGreaterEqual(answer[0], told[0] + told[1])
            self.assertLessEqual(answer[0], 2 ** n)
        self.check_each(check)

    def test_states_behind_and_before_answer_alike(self):
        def check(n, s, t, answer):
            self.assertEqual(basin(n, next_state(n, s, t)[0], t), answer)
            self.assertEqual(basin(n, after(n, s, 1000, t)[0], t), answer)
            for state in before(n, s, t)[1:]:
                self.assertEqual(basin(n, state, t), answer)
        self.check_each(check)

    def test_as_many_as_come_to_the_round_by_round_of(self):
        def check(n, s, t, answer):
            least = min(round_of(n, s, t)[2:])
            self.assertEqual(answer, [sum(min(round_of(n, state, t)[2:]) == least for state in range(2 ** n))])
        self.check_each(check)

    def test_basins_of_all_rounds_together_have_all_states(self):
        for n in range(1, 5):
            for t in some_rules(n, 60) + [COUNTING[n], KEEPING[n], TURNING[n], [0] * n]:
                self.assertEqual(sum(basin(n, least, t)[0] for least in rounds(n, t)[1::2]), 2 ** n, (n, t))


class Corners(BasinTestCase):
    def test_all_flags_down_for_ever(self):
        for n in range(1, 5):
            self.check_all(n, [0] * n, [2 ** n] * 2 ** n)

    def test_all_flags_up_for_ever(self):
        for n in range(1, 5):
            self.check_all(n, [2 ** 2 ** n - 1] * n, [2 ** n] * 2 ** n)

    def test_rule_that_turns_its_own_flag(self):
        for n in range(1, 5):
            self.check_all(n, TURNING[n], [2] * 2 ** n)

    def test_one_tower_turns_and_the_others_keep_their_flags(self):
        for n in range(1, 5):
            for j in range(n):
                self.check_all(n, one_turning(n, j), [2] * 2 ** n)

    def test_round_of_all_states(self):
        for n in range(1, 5):
            self.check_all(n, COUNTING[n], [2 ** n] * 2 ** n)

    def test_each_state_comes_of_itself_alone(self):
        for n in range(1, 5):
            self.check_all(n, KEEPING[n], [1] * 2 ** n)

    def test_one_state_comes_of_itself_alone(self):
        self.check_all(2, [12, 6], [1, 3, 3, 3])
        # 0 comes of itself alone, and 1, 2, 3 all come to 3.
        self.check_all(2, [14, 14], [1, 3, 3, 3])


if __name__ == "__main__":
    unittest.main()
