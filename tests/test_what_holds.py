"""What the document says of all states together, over all calls that tell of it."""

import unittest

from helper import COUNTING, KEEPING, TURNING, some_rules, way_then_round
from towerflags.turns import after, basin, before, gardens, next_state, round_of, rounds


class WhatHolds(unittest.TestCase):
    def check_each(self, check):
        for n in range(1, 5):
            known = [COUNTING[n], KEEPING[n], TURNING[n], [0] * n, way_then_round(n, 2 ** n - 1)]
            for t in some_rules(n, 150) + known:
                with self.subTest(n=n, t=t):
                    check(n, t)

    def test_state_goes_its_way_and_then_round_and_round(self):
        def check(n, t):
            for s in range(2 ** n):
                told = round_of(n, s, t)
                way, size, states = told[0], told[1], told[2:]
                self.assertLessEqual(way + size, 2 ** n)
                walk = [after(n, s, k, t)[0] for k in range(3 * 2 ** n)]
                self.assertEqual(walk[0], s)
                self.assertEqual([next_state(n, state, t)[0] for state in walk[:-1]], walk[1:])
                # No state of the way comes again, and each of the round does so behind as many steps as it has states.
                self.assertEqual(len(set(walk)), way + size)
                self.assertEqual(walk[way:], [states[k % size] for k in range(len(walk) - way)])
                self.assertEqual(after(n, s, 1000, t), [states[(1000 - way) % size]])
        self.check_each(check)

    def test_each_state_comes_to_just_one_round(self):
        def check(n, t):
            told = rounds(n, t)
            sizes = dict(zip(told[1::2], told[2::2], strict=True))
            coming = dict.fromkeys(sizes, 0)
            on_rounds = []
            for s in range(2 ** n):
                states = round_of(n, s, t)[2:]
                self.assertEqual(sizes[min(states)], len(states))
                coming[min(states)] += 1
                if s == min(states):
                    on_rounds.extend(states)
                self.assertEqual(basin(n, s, t), basin(n, min(states), t))
            self.assertEqual(len(set(on_rounds)), len(on_rounds))
            self.assertEqual(len(on_rounds), sum(sizes.values()))
            self.assertEqual({least: basin(n, least, t)[0] for least in sizes}, coming)
            self.assertEqual(sum(coming.values()), 2 ** n)
        self.check_each(check)

    def test_as_many_come_of_none_as_others_come_of_one_too_many(self):
        def check(n, t):
            counts = [before(n, s, t)[0] for s in range(2 ** n)]
            too_many = sum(count - 1 for count in counts if count > 1)
            self.assertEqual(counts.count(0), too_many)
            self.assertEqual(gardens(n, t)[0], too_many)
        self.check_each(check)

    def test_none_comes_of_none_just_if_all_are_on_rounds(self):
        seen = set()

        def check(n, t):
            all_on_rounds = all(round_of(n, s, t)[0] == 0 for s in range(2 ** n))
            self.assertEqual(gardens(n, t) == [0], all_on_rounds)
            self.assertEqual(sum(rounds(n, t)[2::2]) == 2 ** n, all_on_rounds)
            self.assertEqual(all(before(n, s, t)[0] == 1 for s in range(2 ** n)), all_on_rounds)
            seen.add((n, all_on_rounds))
        self.check_each(check)
        self.assertEqual(seen, {(n, holds) for n in range(1, 5) for holds in (False, True)})


if __name__ == "__main__":
    unittest.main()
