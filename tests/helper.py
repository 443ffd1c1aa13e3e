"""What several test files need: the functions, rules with known states behind them, the document's words as sums."""

import itertools

from towerflags.turns import after, basin, before, gardens, next_state, round_of, rounds

# The functions by what they take ahead of t: n alone, or n and s. Only after takes a third number.
WITH_N = (rounds, gardens)
WITH_STATE = (next_state, round_of, before, basin)

LARGEST = 4294967295
LARGEST_IN_LIST = 65535

# For each number of towers: rules by which s comes to s + 1, and the last state to 0.
COUNTING = {
    1: [1],
    2: [5, 6],
    3: [85, 102, 120],
    4: [21845, 26214, 30840, 32640],
}

# For each number of towers: rules each of which turns its own flag.
TURNING = {
    1: [1],
    2: [5, 3],
    3: [85, 51, 15],
    4: [21845, 13107, 3855, 255],
}

# For each number of towers: rules each of which leaves its own flag as it is.
KEEPING = {
    1: [2],
    2: [10, 12],
    3: [170, 204, 240],
    4: [43690, 52428, 61680, 65280],
}


class WatchedList(list):
    """A list that fails as soon as it is changed, were it only for a while."""

    def fail(self, *args, **kwargs):
        raise AssertionError("the list that was handed in is changed")

    append = clear = extend = insert = pop = remove = reverse = sort = fail
    __setitem__ = __delitem__ = __iadd__ = __imul__ = fail


def every_call(n, s, k):
    """Each function, and the numbers that it takes ahead of t."""
    calls = [(call, (n,)) for call in WITH_N] + [(call, (n, s)) for call in WITH_STATE]
    return calls + [(after, (n, s, k))]


def told_next(n, s, t):
    """The state that comes of s, as the document's words tell it."""
    return sum(2 ** j for j in range(n) if t[j] // 2 ** s % 2 == 1)


def told_after(n, s, k, t):
    """The state behind k steps, one step at a time."""
    for count in range(k):
        s = told_next(n, s, t)
    return s


def told_way(n, s, t):
    """How many steps it takes till s is on a round: at a state that comes again behind some steps."""
    steps = range(2 ** n)
    on_round = [any(told_after(n, state, k + 1, t) == state for k in steps) for state in range(2 ** n)]
    return min(k for k in steps if on_round[told_after(n, s, k, t)])


def told_round(n, s, t):
    """The states of the round to which s comes, from the one on with which s comes there."""
    first = told_after(n, s, told_way(n, s, t), t)
    size = min(k for k in range(1, 2 ** n + 1) if told_after(n, first, k, t) == first)
    return [told_after(n, first, k, t) for k in range(size)]


def told_rounds(n, t):
    """The least state and the size of each round, by least states, rising."""
    found = {tuple(sorted(told_round(n, s, t))) for s in range(2 ** n)}
    return [(states[0], len(states)) for states in sorted(found)]


def told_before(n, s, t):
    """The states of which s comes, rising."""
    return [state for state in range(2 ** n) if told_next(n, state, t) == s]


def told_gardens(n, t):
    """The states that come of none, rising: what is left when all that come of one are taken away."""
    return sorted(set(range(2 ** n)) - {told_next(n, s, t) for s in range(2 ** n)})


def told_basins(n, t):
    """For each state, how many states come to the very states of the round to which it comes."""
    ends = [sorted(told_round(n, s, t)) for s in range(2 ** n)]
    return [ends.count(end) for end in ends]


def rules_for(n, behind):
    """The rules by which each state s of n towers comes to behind[s]."""
    return [sum(2 ** s for s in range(2 ** n) if behind[s] // 2 ** j % 2 == 1) for j in range(n)]


def way_then_round(n, way):
    """Rules by which s comes to s + 1, and the last state to the one numbered way."""
    return rules_for(n, list(range(1, 2 ** n)) + [way])


def one_turning(n, j):
    """Rules by which tower j turns its own flag and the others leave theirs as they are."""
    t = list(KEEPING[n])
    t[j] = TURNING[n][j]
    return t


def mixed_rules(n, many):
    """Lists of n rules without an order to them, the same ones each time."""
    rules = 2 ** 2 ** n
    number = 12345
    lists = []
    for count in range(many):
        t = []
        for j in range(n):
            number = (number * 1103515245 + 12345) % 2 ** 31
            t.append(number // 2 ** 8 % rules)
        lists.append(t)
    return lists


def some_rules(n, many):
    """Every list of rules for one and two towers; for three and four, which have too many, so many mixed ones."""
    if n > 2:
        return mixed_rules(n, many)
    return [list(t) for t in itertools.product(range(2 ** 2 ** n), repeat=n)]
