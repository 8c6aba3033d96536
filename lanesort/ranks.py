"""The store's calls that rank rows, and look for rows that are the same and for those out of order."""

from lanesort.checks import check_one_kind, check_slots, check_two_slots, check_up_to
from lanesort.kinds import ROW_NUMBERS, order_keys, rows_of_keys
from lanesort.ordering import inverse, order_of, stretch_begins


def lc_ranks(store, d, a, how):
    check_slots((d, a))
    check_up_to(how, 3)
    keys = order_keys(store.column_in(a))
    return store.put(d, ROW_NUMBERS, ranks_of(keys, how))


def ranks_of(keys, how):
    if how == 0:
        return inverse(order_of(keys))
    ranks = {}
    for place, key in enumerate(sorted(keys)):
        if how == 1:
            ranks.setdefault(key, place)
        elif how == 2:
            ranks[key] = place
        else:
            ranks.setdefault(key, len(ranks))
    return [ranks[key] for key in keys]


def lc_classes(store, d, e, a):
    check_slots((d, e, a))
    check_two_slots(d, e)
    column = store.column_in(a)
    keys = order_keys(column)
    store.put(e, column.kind, rows_of_keys(column.kind, sorted(set(keys))))
    return store.put(d, ROW_NUMBERS, ranks_of(keys, 3))


def lc_earlier(store, d, a):
    check_slots((d, a))
    seen = {}
    earlier = []
    for bits in store.column_in(a).rows:
        earlier.append(seen.get(bits, 0))
        seen[bits] = earlier[-1] + 1
    return store.put(d, ROW_NUMBERS, earlier)


def lc_runs(store, d, e, a):
    check_slots((d, e, a))
    check_two_slots(d, e)
    rows = store.column_in(a).rows
    begins = [row for row, bits in enumerate(rows) if row == 0 or bits != rows[row - 1]]
    ends = begins[1:] + [len(rows)]
    store.put(e, ROW_NUMBERS, [end - begin for begin, end in zip(begins, ends)])
    return store.put(d, ROW_NUMBERS, begins)


def lc_stretches(store, d, a):
    check_slots((d, a))
    keys = order_keys(store.column_in(a))
    return store.put(d, ROW_NUMBERS, stretch_begins(keys))


def lc_swaps(store, a):
    check_slots((a,))
    keys = order_keys(store.column_in(a))
    return [0, count_swaps(ranks_of(keys, 0))]


def count_swaps(ranks):
    """How many pairs of ranks, all different and from 0 on, stand the wrong way round."""
    # A tree of counts: place p has how many of the p & -p ranks just below p have been seen.
    tree = [0] * len(ranks)
    swaps = 0
    for seen, rank in enumerate(ranks):
        place = rank
        swaps += seen
        while place > 0:
            swaps -= tree[place]
            place &= place - 1
        place = rank + 1
        while place < len(tree):
            tree[place] += 1
            place += place & -place
    return swaps


def lc_alike(store, a, b):
    check_slots((a, b))
    one = store.column_in(a)
    other = store.column_in(b)
    check_one_kind((one, other))
    return [1 if sorted(one.rows) == sorted(other.rows) else 0]


RANKING_CALLS = {
    46: (lc_ranks, 3),
    47: (lc_classes, 3),
    48: (lc_earlier, 2),
    49: (lc_runs, 3),
    50: (lc_stretches, 2),
    51: (lc_swaps, 1),
    52: (lc_alike, 2),
}
