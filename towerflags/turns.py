"""How the towers' flags go on from state to state.

A state counts 2 to the power of j for each tower j whose flag is up.
A rule counts 2 to the power of s for each state s behind which its flag is up.
"""

REFUSED = -22
MOST_TOWERS = 4
MOST_STEPS = 1000


def rules_fit(n, t):
    """Tell whether n is a number of towers and t has just one rule for each."""
    # n is looked at first: a power of 2 for an n from outside could be too large to be worked out.
    if n < 1 or n > MOST_TOWERS or len(t) != n:
        return False
    too_large = 1 << (1 << n)
    for rule in t:
        if rule >= too_large:
            return False
    return True


def state_fits(n, s):
    """Tell whether s is a state of n towers, for an n that is from 1 to 4."""
    return s < (1 << n)


def state_behind(s, t):
    """Answer the state that comes of s, for an s and a t that fit."""
    # Every rule is asked of s itself, never of what is built up here: the flags are put all at once.
    behind = 0
    for j, rule in enumerate(t):
        flag = (rule >> s) & 1
        behind = behind | (flag << j)
    return behind


def next_state(n, s, t):
    """Answer the state that comes of s."""
    if not rules_fit(n, t) or not state_fits(n, s):
        return [REFUSED]
    return [state_behind(s, t)]


def after(n, s, k, t):
    """Answer the state behind k steps from s."""
    if not rules_fit(n, t) or not state_fits(n, s) or k > MOST_STEPS:
        return [REFUSED]
    state = s
    for step in range(k):
        state = state_behind(state, t)
    return [state]
