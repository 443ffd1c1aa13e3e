import contextlib
import inspect
import io
import unittest

from helper import COUNTING, LARGEST, LARGEST_IN_LIST, WatchedList, mixed_rules
from towerflags import turns
from towerflags.turns import after, next_state, round_of, rounds


def calls_with(make_list):
    """Calls that are answered and calls that are refused, each with a list made for it alone."""
    calls = []
    for n in range(1, 5):
        for t in [COUNTING[n]] + mixed_rules(n, 5):
            calls.append((rounds, (n,), make_list(t)))
            for s in range(2 ** n):
                calls.append((next_state, (n, s), make_list(t)))
                calls.append((after, (n, s, 7), make_list(t)))
                calls.append((round_of, (n, s), make_list(t)))
        calls.append((next_state, (n, 2 ** n), make_list(COUNTING[n])))
        calls.append((next_state, (n, 0), make_list(COUNTING[n] + [0])))
        calls.append((after, (n, 0, 1001), make_list(COUNTING[n])))
        calls.append((after, (n, 0, 1), make_list(COUNTING[n][:-1])))
        calls.append((round_of, (n, 2 ** n), make_list(COUNTING[n])))
        calls.append((round_of, (n, 0), make_list(COUNTING[n][:-1])))
        calls.append((rounds, (n,), make_list(COUNTING[n] + [0])))
    calls.append((next_state, (2, 0), make_list([5, 16])))
    calls.append((after, (2, 0, 3), make_list([16, 5])))
    calls.append((round_of, (2, 0), make_list([5, 16])))
    calls.append((rounds, (2,), make_list([16, 5])))
    calls.append((next_state, (0, 0), make_list([])))
    calls.append((rounds, (0,), make_list([])))
    calls.append((round_of, (LARGEST, LARGEST), make_list([LARGEST_IN_LIST] * 10)))
    calls.append((after, (LARGEST, LARGEST, LARGEST), make_list([LARGEST_IN_LIST] * 10)))
    return calls


class NamesAndKinds(unittest.TestCase):
    def test_arguments(self):
        self.assertEqual(list(inspect.signature(turns.next_state).parameters), ["n", "s", "t"])
        self.assertEqual(list(inspect.signature(turns.after).parameters), ["n", "s", "k", "t"])
        self.assertEqual(list(inspect.signature(turns.round_of).parameters), ["n", "s", "t"])
        self.assertEqual(list(inspect.signature(turns.rounds).parameters), ["n", "t"])

    def test_arguments_by_name(self):
        self.assertEqual(turns.next_state(n=2, s=1, t=[5, 6]), [2])
        self.assertEqual(turns.after(n=2, s=1, k=2, t=[5, 6]), [3])
        self.assertEqual(turns.round_of(n=2, s=1, t=[5, 6]), [0, 4, 1, 2, 3, 0])
        self.assertEqual(turns.rounds(n=2, t=[5, 6]), [1, 0, 4])

    def test_answer_is_a_list_of_whole_numbers(self):
        for call, numbers, t in calls_with(list):
            answer = call(*numbers, t)
            self.assertIs(type(answer), list)
            self.assertGreaterEqual(len(answer), 1)
            self.assertEqual({type(number) for number in answer}, {int})

    def test_one_number_stands_alone(self):
        for call, numbers, t in calls_with(list):
            if call in (next_state, after):
                self.assertEqual(len(call(*numbers, t)), 1)

    def test_nothing_but_the_refusal_is_below_zero_or_above_the_number_of_states(self):
        for call, numbers, t in calls_with(list):
            answer = call(*numbers, t)
            if answer != [-22]:
                self.assertTrue(all(0 <= number <= 2 ** numbers[0] for number in answer), (numbers, t))


class NothingChangedOrKept(unittest.TestCase):
    def test_list_is_the_same_after_the_call(self):
        for call, numbers, t in calls_with(list):
            before = list(t)
            call(*numbers, t)
            self.assertEqual(t, before)

    def test_list_is_not_changed_for_a_while_either(self):
        for call, numbers, t in calls_with(WatchedList):
            call(*numbers, t)

    def test_calling_again_gives_the_same_answer(self):
        calls = calls_with(list)
        first = [call(*numbers, t) for call, numbers, t in calls]
        again = [call(*numbers, t) for call, numbers, t in calls]
        backwards = [call(*numbers, t) for call, numbers, t in reversed(calls)]
        self.assertEqual(again, first)
        self.assertEqual(list(reversed(backwards)), first)

    def test_answer_that_the_caller_changes_is_not_given_again(self):
        for call, numbers, t in calls_with(list):
            answer = call(*numbers, t)
            expected = list(answer)
            answer.append(99)
            self.assertEqual(call(*numbers, t), expected)

    def test_answer_is_not_the_list_handed_in(self):
        for call, numbers, t in calls_with(list):
            self.assertIsNot(call(*numbers, t), t)

    def test_list_that_the_caller_changes_is_read_anew(self):
        t = [5, 6]
        self.assertEqual(next_state(2, 1, t), [2])
        self.assertEqual(after(2, 1, 2, t), [3])
        self.assertEqual(round_of(2, 3, t), [0, 4, 3, 0, 1, 2])
        self.assertEqual(rounds(2, t), [1, 0, 4])
        t[1] = 0
        self.assertEqual(next_state(2, 1, t), [0])
        self.assertEqual(after(2, 1, 2, t), [1])
        self.assertEqual(round_of(2, 3, t), [1, 2, 0, 1])
        self.assertEqual(rounds(2, t), [1, 0, 2])
        t.append(0)
        self.assertEqual(next_state(2, 1, t), [-22])
        self.assertEqual(after(2, 1, 2, t), [-22])
        self.assertEqual(round_of(2, 3, t), [-22])
        self.assertEqual(rounds(2, t), [-22])

    def test_nothing_is_printed(self):
        out = io.StringIO()
        with contextlib.redirect_stdout(out), contextlib.redirect_stderr(out):
            for call, numbers, t in calls_with(list):
                call(*numbers, t)
        self.assertEqual(out.getvalue(), "")


if __name__ == "__main__":
    unittest.main()
