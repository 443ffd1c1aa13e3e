import unittest

from helper import COUNTING, KEEPING, LARGEST, LARGEST_IN_LIST, WITH_N, WITH_STATE, every_call
from towerflags.turns import after, basin, before, gardens, next_state, round_of, rounds

REFUSAL = [-22]


class Refusals(unittest.TestCase):
    """What is due for n and t is due for every function, so all are asked each time; for s, all that take one."""

    def check_rules_refused(self, n, t):
        for call in WITH_N:
            self.assertEqual(call(n, t), REFUSAL, (call, n, t))
        self.check_refused(n, 0, t)

    def check_refused(self, n, s, t):
        for call in WITH_STATE:
            self.assertEqual(call(n, s, t), REFUSAL, (call, n, s, t))
        for k in (0, 1, 1000):
            self.assertEqual(after(n, s, k, t), REFUSAL, (n, s, k, t))

    def check_answered(self, n, s, t):
        for k in (0, 1, 1000):
            for call, numbers in every_call(n, s, k):
                self.assertGreaterEqual(call(*numbers, t)[0], 0, (call, numbers, t))

    def test_number_of_towers_that_is_answered(self):
        for n in (1, 2, 3, 4):
            self.check_answered(n, 0, [0] * n)

    def test_number_of_towers_that_is_refused(self):
        for n in (0, 5, 6, 10, 65535, LARGEST):
            for many in range(11):
                self.check_rules_refused(n, [0] * many)

    def test_number_of_rules(self):
        for n in range(1, 5):
            for many in range(11):
                if many == n:
                    self.check_answered(n, 0, [0] * many)
                else:
                    self.check_rules_refused(n, [0] * many)

    def test_number_of_rules_beside_rules_that_do_something(self):
        for n in range(1, 5):
            self.check_answered(n, 0, COUNTING[n])
            self.check_rules_refused(n, COUNTING[n][:-1])
            self.check_rules_refused(n, COUNTING[n] + [1])

    def test_largest_rule_is_answered(self):
        for n, largest in ((1, 3), (2, 15), (3, 255), (4, LARGEST_IN_LIST)):
            for j in range(n):
                t = [0] * n
                t[j] = largest
                others = [s for s in range(2 ** n) if s != 2 ** j]
                self.assertEqual(rounds(n, t), [1, 2 ** j, 1])
                self.assertEqual(gardens(n, t), [2 ** n - 1] + others)
                self.assertEqual(before(n, 2 ** j, t), [2 ** n] + list(range(2 ** n)))
                for s in others:
                    self.assertEqual(before(n, s, t), [0])
                for s in range(2 ** n):
                    self.assertEqual(next_state(n, s, t), [2 ** j])
                    self.assertEqual(after(n, s, 1, t), [2 ** j])
                    self.assertEqual(round_of(n, s, t), [0 if s == 2 ** j else 1, 1, 2 ** j])
                    self.assertEqual(basin(n, s, t), [2 ** n])

    def test_rule_that_is_too_large_is_refused_for_each_tower(self):
        for n, too_large in ((1, 4), (2, 16), (3, 256)):
            for j in range(n):
                for rule in (too_large, too_large + 1, LARGEST_IN_LIST):
                    t = [0] * n
                    t[j] = rule
                    self.check_rules_refused(n, t)

    def test_state(self):
        for n in range(1, 5):
            for s in range(2 ** n):
                self.check_answered(n, s, COUNTING[n])
            for s in (2 ** n, 2 ** n + 1, 32, 65536, LARGEST):
                self.check_refused(n, s, COUNTING[n])

    def test_largest_state_goes_on(self):
        for n, largest in ((1, 1), (2, 3), (3, 7), (4, 15)):
            self.assertEqual(next_state(n, largest, COUNTING[n]), [0])
            self.assertEqual(after(n, largest, 1, COUNTING[n]), [0])
            self.assertEqual(round_of(n, largest, COUNTING[n]), [0, largest + 1, largest] + list(range(largest)))
            self.assertEqual(before(n, largest, COUNTING[n]), [1, largest - 1])
            self.assertEqual(basin(n, largest, COUNTING[n]), [largest + 1])

    def test_number_of_steps(self):
        for n in range(1, 5):
            for k in (0, 1, 1000):
                self.assertEqual(after(n, 1, k, KEEPING[n]), [1])
            for k in (1001, 1002, 65536, LARGEST):
                self.assertEqual(after(n, 1, k, KEEPING[n]), REFUSAL)

    def test_several_refusals_are_one_number(self):
        self.check_rules_refused(LARGEST, [LARGEST_IN_LIST] * 10)
        self.check_rules_refused(0, [LARGEST_IN_LIST])
        self.check_rules_refused(2, [16, 16, 16])
        self.check_refused(LARGEST, LARGEST, [LARGEST_IN_LIST] * 10)
        self.check_refused(0, LARGEST, [])
        self.check_refused(2, 4, [16, 16, 16])
        self.assertEqual(after(LARGEST, LARGEST, LARGEST, [LARGEST_IN_LIST] * 10), REFUSAL)
        self.assertEqual(after(0, 0, 1001, []), REFUSAL)


if __name__ == "__main__":
    unittest.main()
