import contextlib
import inspect
import io
import math
import pathlib
import unittest
from unittest import mock

from helper import COUNTING, LARGEST, LARGEST_IN_LIST, WatchedList, every_call, mixed_rules
from towerflags import turns
from towerflags.turns import after, basin, before, gardens, next_state, round_of, rounds


def calls_with(make_list):
    """Calls of every function, some answered and some refused, each with a list made for it alone."""
    asked = []
    for n in range(1, 5):
        for t in [COUNTING[n]] + mixed_rules(n, 5):
            for s in range(2 ** n):
                asked.append((n, s, 7, t))
        asked.append((n, 2 ** n, 1, COUNTING[n]))
        asked.append((n, 0, 1001, COUNTING[n]))
        asked.append((n, 0, 1, COUNTING[n] + [0]))
        asked.append((n, 0, 1, COUNTING[n][:-1]))
    asked.append((2, 0, 3, [5, 16]))
    asked.append((2, 0, 3, [16, 5]))
    asked.append((0, 0, 0, []))
    asked.append((LARGEST, LARGEST, LARGEST, [LARGEST_IN_LIST] * 10))
    return [(call, numbers, make_list(t)) for n, s, k, t in asked for call, numbers in every_call(n, s, k)]


class NamesAndKinds(unittest.TestCase):
    def test_arguments(self):
        self.assertEqual(list(inspect.signature(turns.next_state).parameters), ["n", "s", "t"])
        self.assertEqual(list(inspect.signature(turns.after).parameters), ["n", "s", "k", "t"])
        self.assertEqual(list(inspect.signature(turns.round_of).parameters), ["n", "s", "t"])
        self.assertEqual(list(inspect.signature(turns.rounds).parameters), ["n", "t"])
        self.assertEqual(list(inspect.signature(turns.before).parameters), ["n", "s", "t"])
        self.assertEqual(list(inspect.signature(turns.gardens).parameters), ["n", "t"])
        self.assertEqual(list(inspect.signature(turns.basin).parameters), ["n", "s", "t"])

    def test_arguments_by_name(self):
        self.assertEqual(turns.next_state(n=2, s=1, t=[5, 6]), [2])
        self.assertEqual(turns.after(n=2, s=1, k=2, t=[5, 6]), [3])
        self.assertEqual(turns.round_of(n=2, s=1, t=[5, 6]), [0, 4, 1, 2, 3, 0])
        self.assertEqual(turns.rounds(n=2, t=[5, 6]), [1, 0, 4])
        self.assertEqual(turns.before(n=2, s=1, t=[5, 6]), [1, 0])
        self.assertEqual(turns.gardens(n=2, t=[5, 6]), [0])
        self.assertEqual(turns.basin(n=2, s=1, t=[5, 6]), [4])

    def test_answer_is_a_list_of_whole_numbers(self):
        for call, numbers, t in calls_with(list):
            answer = call(*numbers, t)
            self.assertIs(type(answer), list)
            self.assertGreaterEqual(len(answer), 1)
            self.assertEqual({type(number) for number in answer}, {int})

    def test_one_number_stands_alone(self):
        for call, numbers, t in calls_with(list):
            if call in (next_state, after, basin):
                self.assertEqual(len(call(*numbers, t)), 1)

    def test_nothing_but_the_refusal_is_below_zero_or_above_the_number_of_states(self):
        for call, numbers, t in calls_with(list):
            answer = call(*numbers, t)
            if answer != [-22]:
                self.assertTrue(all(0 <= number <= 2 ** numbers[0] for number in answer), (numbers, t))


class NothingChangedOrKept(unittest.TestCase):
    def test_list_is_the_same_after_the_call(self):
        for call, numbers, t in calls_with(list):
            copied = list(t)
            call(*numbers, t)
            self.assertEqual(t, copied)

    def test_list_is_not_changed_for_a_while_either(self):
        for call, numbers, t in calls_with(WatchedList):
            call(*numbers, t)

    def test_calling_again_gives_the_same_answer(self):
        for call, numbers, t in calls_with(list):
            self.assertEqual(call(*numbers, t), call(*numbers, t))

    def test_answer_that_the_caller_changes_is_not_given_again(self):
        for call, numbers, t in calls_with(list):
            answer = call(*numbers, t)
            expected = list(answer)
            answer.append(99)
            self.assertEqual(call(*numbers, t), expected)

    def test_answer_is_not_the_list_handed_in(self):
        for call, numbers, t in calls_with(list):
            self.assertIsNot(call(*numbers, t), t)

    def test_list_that_the_caller_changes_is_read_anew(self):
        t = [5, 6]
        self.assertEqual(next_state(2, 1, t), [2])
        self.assertEqual(after(2, 1, 2, t), [3])
        self.assertEqual(round_of(2, 3, t), [0, 4, 3, 0, 1, 2])
        self.assertEqual(rounds(2, t), [1, 0, 4])
        self.assertEqual(before(2, 0, t), [1, 3])
        self.assertEqual(gardens(2, t), [0])
        self.assertEqual(basin(2, 0, t), [4])
        t[1] = 12
        self.assertEqual(basin(2, 0, t), [2])
        t[1] = 0
        self.assertEqual(next_state(2, 1, t), [0])
        self.assertEqual(after(2, 1, 2, t), [1])
        self.assertEqual(round_of(2, 3, t), [1, 2, 0, 1])
        self.assertEqual(rounds(2, t), [1, 0, 2])
        self.assertEqual(before(2, 0, t), [2, 1, 3])
        self.assertEqual(gardens(2, t), [2, 2, 3])
        t.append(0)
        for call, numbers in every_call(2, 1, 2):
            self.assertEqual(call(*numbers, t), [-22])

    def test_nothing_is_printed(self):
        out = io.StringIO()
        with contextlib.redirect_stdout(out), contextlib.redirect_stderr(out):
            for call, numbers, t in calls_with(list):
                call(*numbers, t)
        self.assertEqual(out.getvalue(), "")

    def test_nothing_is_read_or_imported(self):
        calls = calls_with(list)
        fail = AssertionError("something is read or imported")
        with mock.patch("builtins.open", side_effect=fail), mock.patch("builtins.input", side_effect=fail), \
                mock.patch("sys.stdin", None), mock.patch("builtins.__import__", side_effect=fail):
            for call, numbers, t in calls:
                call(*numbers, t)


class AnyOrder(unittest.TestCase):
    """Calls made one after another answer as each does by itself: as the only one of a module read for it alone."""

    @classmethod
    def setUpClass(cls):
        path = pathlib.Path(turns.__file__)
        cls.code = compile(path.read_text(encoding="utf-8"), str(path), "exec")
        cls.calls = calls_with(list)
        cls.alone = [cls.answer_by_itself(*call) for call in cls.calls]

    @classmethod
    def answer_by_itself(cls, call, numbers, t):
        names = {}
        exec(cls.code, names)
        return names[call.__name__](*numbers, list(t))

    def check_order(self, order):
        self.assertEqual(sorted(order), list(range(len(self.calls))))
        for place in order:
            call, numbers, t = self.calls[place]
            self.assertEqual(call(*numbers, t), self.alone[place], (call, numbers, t))

    def test_every_function_is_called(self):
        names = {call.__name__ for call, numbers, t in self.calls}
        self.assertEqual(names, {"next_state", "after", "round_of", "rounds", "before", "gardens", "basin"})

    def test_forwards_and_backwards(self):
        order = list(range(len(self.calls)))
        self.check_order(order)
        self.check_order(order[::-1])

    def test_mixed(self):
        many = len(self.calls)
        for step in (3, 7, 11, 101, 389, 611, 997):
            # A step that shares no divisor with the number of calls comes by each of them once.
            while math.gcd(step, many) > 1:
                step += 1
            self.check_order([place * step % many for place in range(many)])

    def test_each_function_behind_each(self):
        asked = []
        for n in (2, 3):
            for t in (COUNTING[n], [0] * n, COUNTING[n] + [0]):
                asked.extend((call, numbers, t) for call, numbers in every_call(n, 1, 2))
        alone = [self.answer_by_itself(*call) for call in asked]
        for first, first_numbers, first_t in asked:
            for (call, numbers, t), expected in zip(asked, alone):
                first(*first_numbers, first_t)
                self.assertEqual(call(*numbers, t), expected, (first, first_numbers, first_t, call, numbers, t))

    def test_one_list_handed_to_all(self):
        for n in range(1, 5):
            for rules in [COUNTING[n]] + mixed_rules(n, 5):
                t = list(rules)
                for s in range(2 ** n):
                    for call, numbers in every_call(n, s, 7):
                        self.assertEqual(call(*numbers, t), self.answer_by_itself(call, numbers, rules))


if __name__ == "__main__":
    unittest.main()
