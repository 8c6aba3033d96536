"""Rows of sixteen words: whole numbers from 0 to 4294967295, word 0 first."""

from lanesort.ordering import inverse, order_of


def lv_order(x):
    """Word i of the answer is where the i-th of x's words in order stands."""
    return order_of(x)


def lv_rank(x):
    """Word i of the answer is which one in order word i of x is."""
    return inverse(lv_order(x))


def lv_moved(x, at):
    """Each word of x goes to the place that at says (modulo 16), word 0 first; elsewhere 0."""
    moved = [0] * 16
    for word, place in zip(x, at):
        moved[place % 16] = word
    return moved


def lv_earlier(x):
    """Word i of the answer is how many words before word i of x are the same."""
    return [x[:place].count(word) for place, word in enumerate(x)]


def lv_first(x):
    """One number: its bit i is 1 if no word before word i of x is the same."""
    bits = 0
    for place, earlier in enumerate(lv_earlier(x)):
        if earlier == 0:
            bits |= 1 << place
    return [bits]


def lv_merge(a, s, b, t):
    """a's and b's keys in order, sixteen and sixteen, then their tags, each where its key is."""
    keys = a + b
    tags = s + t
    order = order_of(keys)
    merged = [keys[place] for place in order]
    return [16] + merged[:16] + [16] + merged[16:] + [32] + [tags[place] for place in order]


def lv_part(pivot, x, keys):
    """x's words whose key is below pivot, then the others, then how many are below."""
    below = [word for word, key in zip(x, keys) if key < pivot]
    others = [word for word, key in zip(x, keys) if key >= pivot]
    return [16] + below + others + [1, len(below)]


def lv_sums(x, keys):
    """Word i is the sum, modulo 2^32, of x's words up to i whose key is the same as key i."""
    totals = {}
    sums = []
    for word, key in zip(x, keys):
        totals[key] = (totals.get(key, 0) + word) % 4294967296
        sums.append(totals[key])
    return sums


def lv_runs(x):
    """Word i is where the run of words that are the same begins that word i is in."""
    begins = []
    for place, word in enumerate(x):
        same = place > 0 and x[place - 1] == word
        begins.append(begins[place - 1] if same else place)
    return begins
