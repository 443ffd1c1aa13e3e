"""What the document says of all states together, over all calls that tell of it."""

import unittest

from helper import COUNTING, KEEPING, TURNING, some_rules, way_then_round
from towerflags.turns import before, gardens, round_of, rounds


class WhatHolds(unittest.TestCase):
    def check_each(self, check):
        for n in range(1, 5):
            known = [COUNTING[n], KEEPING[n], TURNING[n], [0] * n, way_then_round(n, 2 ** n - 1)]
            for t in some_rules(n, 150) + known:
                with self.subTest(n=n, t=t):
                    check(n, t)

    def test_as_many_come_of_none_as_others_come_of_one_too_many(self):
        def check(n, t):
            counts = [before(n, s, t)[0] for s in range(2 ** n)]
            too_many = sum(count - 1 for count in counts if count > 1)
            self.assertEqual(counts.count(0), too_many)
            self.assertEqual(gardens(n, t)[0], too_many)
        self.check_each(check)

    def test_none_comes_of_none_just_if_all_are_on_rounds(self):
        seen = set()

        def check(n, t):
            all_on_rounds = all(round_of(n, s, t)[0] == 0 for s in range(2 ** n))
            self.assertEqual(gardens(n, t) == [0], all_on_rounds)
            self.assertEqual(sum(rounds(n, t)[2::2]) == 2 ** n, all_on_rounds)
            self.assertEqual(all(before(n, s, t)[0] == 1 for s in range(2 ** n)), all_on_rounds)
            seen.add((n, all_on_rounds))
        self.check_each(check)
        self.assertEqual(seen, {(n, holds) for n in range(1, 5) for holds in (False, True)})


if __name__ == "__main__":
    unittest.main()
