import unittest

from helper import COUNTING, KEEPING, TURNING, one_turning, rules_for, some_rules, told_rounds, way_then_round
from towerflags.turns import round_of, rounds


def pairs_of(answer):
    """The least state and the size of each round, as rounds answers them."""
    return list(zip(answer[1::2], answer[2::2], strict=True))


class OrdinaryRounds(unittest.TestCase):
    def test_one_tower_has_four_rules(self):
        self.assertEqual(rounds(1, [0]), [1, 0, 1])
        self.assertEqual(rounds(1, [1]), [1, 0, 2])
        self.assertEqual(rounds(1, [2]), [2, 0, 1, 1, 1])
        self.assertEqual(rounds(1, [3]), [1, 1, 1])

    def test_two_towers(self):
        # 0 comes to 2, 1 to 0, 2 to 1, and 3 to 1.
        self.assertEqual(rounds(2, [12, 1]), [1, 0, 3])
        # 0 and 3 come to themselves, 1 and 2 to 2.
        self.assertEqual(rounds(2, [8, 14]), [3, 0, 1, 2, 1, 3, 1])
        # Each of the two takes over the other's flag.
        self.assertEqual(rounds(2, [12, 10]), [3, 0, 1, 1, 2, 3, 1])

    def test_three_towers(self):
        # Each tower takes over the flag of the tower before it, the first that of the last.
        self.assertEqual(rounds(3, [240, 170, 204]), [4, 0, 1, 1, 3, 3, 3, 7, 1])

    def test_four_towers(self):
        # 0 comes to 5, 1 to 7 come to 0, 8 to 14 to 8, and 15 to 14.
        self.assertEqual(rounds(4, [1, 32768, 32769, 65280]), [2, 0, 2, 8, 1])

    def test_told_by_the_words(self):
        for n in range(1, 5):
            for t in some_rules(n, 100):
                expected = told_rounds(n, t)
                answer = rounds(n, t)
                self.assertEqual(answer[0], len(expected), (n, t))
                self.assertEqual(pairs_of(answer), expected, (n, t))


class LeastStates(unittest.TestCase):
    def test_round_that_is_entered_above_its_least_state(self):
        # 0 comes to 7, and the round is 7, 3, 5: its least state is neither the first entered nor the last.
        self.assertEqual(rounds(3, rules_for(3, [7, 0, 0, 5, 0, 7, 0, 3])), [1, 3, 3])

    def test_least_of_all_states_comes_to_the_last_round(self):
        # 0 comes to 6, which goes round with 7; 1 comes to 4, which goes round with 5; 2 and 3 go round.
        t = rules_for(3, [6, 4, 3, 2, 5, 4, 7, 6])
        self.assertEqual(rounds(3, t), [3, 2, 2, 4, 2, 6, 2])

    def test_least_states_rise_whatever_the_sizes(self):
        # The rounds are 0, 14, 6, 11, then 1, then 2, 12, 7, then 5, 9; the other states come to these.
        t = rules_for(4, [14, 1, 12, 5, 2, 9, 11, 2, 1, 5, 3, 0, 7, 8, 6, 0])
        self.assertEqual(rounds(4, t), [4, 0, 4, 1, 1, 2, 3, 5, 2])

    def test_round_with_all_but_the_least_states(self):
        for n in range(1, 5):
            for way in range(2 ** n):
                self.assertEqual(rounds(n, way_then_round(n, way)), [1, way, 2 ** n - way])


class WhatHolds(unittest.TestCase):
    def check_each(self, check):
        for n in range(1, 5):
            for t in some_rules(n, 100) + [COUNTING[n], KEEPING[n], TURNING[n], [0] * n]:
                check(n, t, rounds(n, t))

    def test_count_and_two_numbers_for_each(self):
        def check(n, t, answer):
            self.assertGreaterEqual(answer[0], 1)
            self.assertEqual(len(answer), 1 + 2 * answer[0])
        self.check_each(check)

    def test_least_states_rise(self):
        def check(n, t, answer):
            least = answer[1::2]
            self.assertEqual(least, sorted(set(least)))
        self.check_each(check)

    def test_rounds_have_no_more_states_than_there_are(self):
        def check(n, t, answer):
            self.assertLessEqual(sum(answer[2::2]), 2 ** n)
        self.check_each(check)

    def test_each_state_comes_to_just_one_of_them(self):
        def check(n, t, answer):
            reached = set()
            for s in range(2 ** n):
                states = round_of(n, s, t)[2:]
                pair = (min(states), len(states))
                self.assertEqual(pairs_of(answer).count(pair), 1)
                reached.add(pair)
            self.assertEqual(sorted(reached), pairs_of(answer))
        self.check_each(check)

    def test_states_without_a_way_are_those_of_the_rounds(self):
        def check(n, t, answer):
            on_rounds = [s for s in range(2 ** n) if round_of(n, s, t)[0] == 0]
            self.assertEqual(len(on_rounds), sum(answer[2::2]))
        self.check_each(check)


class Corners(unittest.TestCase):
    def test_all_flags_down_for_ever(self):
        for n in range(1, 5):
            self.assertEqual(rounds(n, [0] * n), [1, 0, 1])

    def test_all_flags_up_for_ever(self):
        for n in range(1, 5):
            self.assertEqual(rounds(n, [2 ** 2 ** n - 1] * n), [1, 2 ** n - 1, 1])

    def test_rule_that_turns_its_own_flag(self):
        self.assertEqual(rounds(1, TURNING[1]), [1, 0, 2])
        self.assertEqual(rounds(2, TURNING[2]), [2, 0, 2, 1, 2])
        self.assertEqual(rounds(3, TURNING[3]), [4, 0, 2, 1, 2, 2, 2, 3, 2])
        self.assertEqual(rounds(4, TURNING[4]), [8, 0, 2, 1, 2, 2, 2, 3, 2, 4, 2, 5, 2, 6, 2, 7, 2])

    def test_one_tower_turns_and_the_others_keep_their_flags(self):
        for n in range(1, 5):
            for j in range(n):
                t = one_turning(n, j)
                expected = [2 ** n // 2]
                for s in range(2 ** n):
                    if s // 2 ** j % 2 == 0:
                        expected.extend([s, 2])
                self.assertEqual(rounds(n, t), expected)

    def test_round_of_all_states(self):
        for n in range(1, 5):
            self.assertEqual(rounds(n, COUNTING[n]), [1, 0, 2 ** n])

    def test_each_state_comes_of_itself_alone(self):
        for n in range(1, 5):
            expected = [2 ** n]
            for s in range(2 ** n):
                expected.extend([s, 1])
            self.assertEqual(rounds(n, KEEPING[n]), expected)

    def test_one_state_comes_of_itself_alone(self):
        self.assertEqual(rounds(2, [12, 6]), [2, 0, 1, 1, 3])


if __name__ == "__main__":
    unittest.main()
