"""The store's calls that match rows of columns with one another."""

from lanesort.checks import check_as_many, check_fits, check_in_order, check_one_kind, check_rising
from lanesort.checks import check_size, check_slots, check_two_slots, check_up_to
from lanesort.kinds import NO_ROW, ROW_NUMBERS, is_whole, numbers_of, order_keys, rows_of_keys
from lanesort.ordering import counts_below, counts_not_above, order_of


def lc_seek(store, d, a, b):
    check_slots((d, a, b))
    column = store.column_in(a)
    sought = store.column_in(b)
    check_one_kind((column, sought))
    keys = order_keys(column)
    check_in_order(keys)
    return store.put(d, ROW_NUMBERS, counts_below(keys, order_keys(sought)))


def lc_near(store, d, a, b, how):
    check_slots((d, a, b))
    check_up_to(how, 1)
    column = store.column_in(a)
    sought = store.column_in(b)
    check_one_kind((column, sought))
    keys = order_keys(column)
    check_in_order(keys)
    return store.put(d, ROW_NUMBERS, nearest_rows(keys, order_keys(sought), how))


def nearest_rows(keys, sought, how):
    if how == 0:
        return [count - 1 if count > 0 else NO_ROW for count in counts_not_above(keys, sought)]
    return [count if count < len(keys) else NO_ROW for count in counts_below(keys, sought)]


def lc_join(store, d, e, a, b, how):
    check_slots((d, e, a, b))
    check_two_slots(d, e)
    check_up_to(how, 3)
    one = store.column_in(a)
    other = store.column_in(b)
    check_one_kind((one, other))
    rows_with = {}
    for row, bits in enumerate(other.rows):
        rows_with.setdefault(bits, []).append(row)
    partners = [joined(rows_with.get(bits, []), how) for bits in one.rows]
    check_size(sum([len(rows) for rows in partners]))
    return put_pairs(store, d, e, partners)


def joined(rows, how):
    """With which of the rows that have its value a row is joined."""
    if how == 2:
        return rows[:1]
    if how == 3:
        return [NO_ROW] if len(rows) == 0 else []
    return [NO_ROW] if how == 1 and len(rows) == 0 else rows


def put_pairs(store, d, e, partners):
    """Each row number in d, as often as it has partners, these in e."""
    firsts = []
    seconds = []
    for row, others in enumerate(partners):
        firsts.extend([row] * len(others))
        seconds.extend(others)
    store.put(e, ROW_NUMBERS, seconds)
    return store.put(d, ROW_NUMBERS, firsts)


def lc_band(store, d, e, a, b, w):
    check_slots((d, e, a, b))
    check_two_slots(d, e)
    one = store.column_in(a)
    other = store.column_in(b)
    check_one_kind((one, other))
    check_fits(is_whole(one.kind))
    numbers = numbers_of(one)
    lows = [number - w for number in numbers]
    highs = [number + w for number in numbers]
    return put_pairs(store, d, e, partners_between(lows, highs, numbers_of(other)))


def lc_spans(store, d, e, lo, hi, b):
    check_slots((d, e, lo, hi, b))
    check_two_slots(d, e)
    lows = store.column_in(lo)
    highs = store.column_in(hi)
    column = store.column_in(b)
    check_one_kind((lows, highs, column))
    check_as_many((lows, highs))
    partners = partners_between(order_keys(lows), order_keys(highs), order_keys(column))
    return put_pairs(store, d, e, partners)


def partners_between(lows, highs, keys):
    """For each low and high the places of the keys from low to high."""
    order = order_of(keys)
    ordered = [keys[row] for row in order]
    begins = counts_below(ordered, lows)
    ends = counts_not_above(ordered, highs)
    # Where low is above high, the end may come before the beginning: none is between.
    check_size(sum([max(end - begin, 0) for begin, end in zip(begins, ends)]))
    return [sorted(order[begin:end]) for begin, end in zip(begins, ends)]


def lc_sets(store, d, a, b, op):
    check_slots((d, a, b))
    check_up_to(op, 3)
    one = store.column_in(a)
    other = store.column_in(b)
    check_one_kind((one, other))
    keys = order_keys(one)
    more_keys = order_keys(other)
    check_rising(keys)
    check_rising(more_keys)
    rows = rows_of_keys(one.kind, keys_in(keys, more_keys, op))
    check_size(len(rows))
    return store.put(d, one.kind, rows)


def keys_in(keys, more_keys, op):
    if op == 0:
        return sorted(set(keys) | set(more_keys))
    if op == 1:
        return sorted(set(keys) & set(more_keys))
    if op == 2:
        return sorted(set(keys) - set(more_keys))
    return sorted(set(keys) ^ set(more_keys))


MATCHING_CALLS = {
    70: (lc_seek, 3),
    71: (lc_near, 4),
    72: (lc_join, 5),
    73: (lc_band, 5),
    74: (lc_spans, 5),
    75: (lc_sets, 4),
}
