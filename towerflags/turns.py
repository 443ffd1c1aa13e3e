"""How the towers' flags go on from state to state.

A state counts 2 to the power of j for each tower j whose flag is up.
A rule counts 2 to the power of s for each state s behind which its flag is up.
"""

REFUSED = -22
MOST_TOWERS = 4
MOST_STEPS = 1000


def rules_fit(n, t):
    """Tell whether n is a number of towers and t has just one rule for each."""
    # n is looked at first: a power of 2 for an n from outside could be too large to be worked out.
    if n < 1 or n > MOST_TOWERS or len(t) != n:
        return False
    too_large = 1 << (1 << n)
    for rule in t:
        if rule >= too_large:
            return False
    return True


def state_fits(n, s, t):
    """Tell whether n and t fit, and s is a state of so many towers."""
    return rules_fit(n, t) and s < (1 << n)


def state_behind(s, t):
    """Answer the state that comes of s, for an s and a t that fit."""
    # Every rule is asked of s itself, never of what is built up here: the flags are put all at once.
    behind = 0
    for j, rule in enumerate(t):
        flag = (rule >> s) & 1
        behind = behind | (flag << j)
    return behind


def states_from(s, t):
    """Answer s and the states that come behind it, each once, in the order in which they come."""
    walk = []
    state = s
    while state not in walk:
        walk.append(state)
        state = state_behind(state, t)
    return walk


def way_length(walk, t):
    """Answer how many states of a walk, as states_from answers it, come ahead of its round."""
    # What comes of the walk's last state is in the walk already: there the round was entered.
    return walk.index(state_behind(walk[-1], t))


def states_before(n, s, t):
    """Answer the states of which s comes, rising, for an n, an s and a t that fit."""
    return [state for state in range(1 << n) if state_behind(state, t) == s]


def next_state(n, s, t):
    """Answer the state that comes of s."""
    if not state_fits(n, s, t):
        return [REFUSED]
    return [state_behind(s, t)]


def after(n, s, k, t):
    """Answer the state behind k steps from s."""
    if not state_fits(n, s, t) or k > MOST_STEPS:
        return [REFUSED]
    state = s
    for step in range(k):
        state = state_behind(state, t)
    return [state]


def round_of(n, s, t):
    """Answer how many steps s is from its round, how many states this has, and these as s comes to them."""
    if not state_fits(n, s, t):
        return [REFUSED]
    walk = states_from(s, t)
    way = way_length(walk, t)
    return [way, len(walk) - way] + walk[way:]


def rounds(n, t):
    """Answer how many rounds there are, then of each its least state and how many states it has."""
    if not rules_fit(n, t):
        return [REFUSED]
    told = []
    for s in range(1 << n):
        walk = states_from(s, t)
        # Each round has just one least state, so it is told once; s rises, so the least states do too.
        if way_length(walk, t) == 0 and min(walk) == s:
            told.extend([s, len(walk)])
    return [len(told) // 2] + told


def before(n, s, t):
    """Answer of how many states s comes, then these, rising."""
    if not state_fits(n, s, t):
        return [REFUSED]
    found = states_before(n, s, t)
    return [len(found)] + found


def gardens(n, t):
    """Answer how many states come of none, then these, rising."""
    if not rules_fit(n, t):
        return [REFUSED]
    found = [s for s in range(1 << n) if len(states_before(n, s, t)) == 0]
    return [len(found)] + found


def basin(n, s, t):
    """Answer how many states come to the round to which s comes, those of the round among them."""
    if not state_fits(n, s, t):
        return [REFUSED]
    # A walk ends on its round and goes through the whole of it: one state of the round stands for all.
    on_round = states_from(s, t)[-1]
    return [len([state for state in range(1 << n) if on_round in states_from(state, t)])]
