"""What several test files need: rules with known states behind them, and the document's words as sums."""

LARGEST = 4294967295
LARGEST_IN_LIST = 65535

# For each number of towers: rules by which s comes to s + 1, and the last state to 0.
COUNTING = {
    1: [1],
    2: [5, 6],
    3: [85, 102, 120],
    4: [21845, 26214, 30840, 32640],
}

# For each number of towers: rules each of which turns its own flag.
TURNING = {
    1: [1],
    2: [5, 3],
    3: [85, 51, 15],
    4: [21845, 13107, 3855, 255],
}

# For each number of towers: rules each of which leaves its own flag as it is.
KEEPING = {
    1: [2],
    2: [10, 12],
    3: [170, 204, 240],
    4: [43690, 52428, 61680, 65280],
}


class WatchedList(list):
    """A list that fails as soon as it is changed, were it only for a while."""

    def fail(self, *args, **kwargs):
        raise AssertionError("the list that was handed in is changed")

    append = clear = extend = insert = pop = remove = reverse = sort = fail
    __setitem__ = __delitem__ = __iadd__ = __imul__ = fail


def told_next(n, s, t):
    """The state that comes of s, as the document's words tell it."""
    return sum(2 ** j for j in range(n) if t[j] // 2 ** s % 2 == 1)


def told_after(n, s, k, t):
    """The state behind k steps, one step at a time."""
    for count in range(k):
        s = told_next(n, s, t)
    return s


def mixed_rules(n, many):
    """Lists of n rules without an order to them, the same ones each time."""
    rules = 2 ** 2 ** n
    number = 12345
    lists = []
    for count in range(many):
        t = []
        for j in range(n):
            number = (number * 1103515245 + 12345) % 2 ** 31
            t.append(number // 2 ** 8 % rules)
        lists.append(t)
    return lists
