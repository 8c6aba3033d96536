"""The store's calls that put rows in order and merge them."""

from lanesort.checks import check_all_below, check_as_many, check_from_one_to, check_how_many, check_in_order
from lanesort.checks import check_one_kind, check_rising, check_row_numbers, check_rows, check_size, check_slots
from lanesort.checks import check_two_slots, check_up_to
from lanesort.kinds import ROW_NUMBERS, order_keys, rows_of_keys
from lanesort.ordering import order_of, sorted_by, stretch_begins


def lc_order(store, d, by):
    check_slots((d,))
    check_from_one_to(len(by), 4)
    for byte in by:
        check_up_to(byte, 31)
    columns = [store.column_in(byte % 16) for byte in by]
    check_as_many(columns)
    order = list(range(len(columns[0].rows)))
    # Each sort keeps the one before it where rows are the same: so the first column comes last.
    for byte, column in zip(by[::-1], columns[::-1]):
        order = sorted_by(order, keys_by(column, byte))
    return store.put(d, ROW_NUMBERS, order)


def keys_by(column, byte):
    keys = order_keys(column)
    return keys if byte < 16 else [-key for key in keys]


def lc_sort(store, a, b):
    check_slots((a, b))
    check_two_slots(a, b)
    leading = store.column_in(a)
    going_along = store.column_in(b)
    check_as_many((leading, going_along))
    order = order_of(order_keys(leading))
    store.put(b, going_along.kind, [going_along.rows[row] for row in order])
    return store.put(a, leading.kind, [leading.rows[row] for row in order])


def lc_merge(store, d, e, a, b):
    check_slots((d, e, a, b))
    check_two_slots(d, e)
    one = store.column_in(a)
    other = store.column_in(b)
    check_one_kind((one, other))
    keys = order_keys(one)
    more_keys = order_keys(other)
    check_in_order(keys)
    check_in_order(more_keys)
    check_size(len(keys) + len(more_keys))
    order = order_of(keys + more_keys)
    rows = one.rows + other.rows
    store.put(e, ROW_NUMBERS, order)
    return store.put(d, one.kind, [rows[row] for row in order])


def lc_many(store, d, e, a, s):
    check_slots((d, e, a, s))
    check_two_slots(d, e)
    column = store.column_in(a)
    begins = store.column_in(s)
    check_row_numbers(begins)
    keys = order_keys(column)
    check_stretches(keys, begins.rows)
    order = order_of(keys)
    store.put(e, ROW_NUMBERS, order)
    return store.put(d, column.kind, [column.rows[row] for row in order])


def check_stretches(keys, begins):
    check_rising(begins)
    check_all_below(begins, len(keys))
    # Row 0 begins one of the longest stretches, so that it must be among these, too.
    check_rows(len(set(stretch_begins(keys)) - set(begins)) == 0)


def lc_best(store, d, a, k):
    check_slots((d, a))
    check_how_many(k)
    column = store.column_in(a)
    check_rows(k <= len(column.rows))
    return store.put(d, ROW_NUMBERS, order_of(order_keys(column))[:k])


def lc_nth(store, a, k):
    check_slots((a,))
    check_how_many(k)
    column = store.column_in(a)
    check_rows(k < len(column.rows))
    return [0] + rows_of_keys(column.kind, sorted(order_keys(column))[k:k + 1])


ORDERING_CALLS = {
    40: (lc_order, 1),
    41: (lc_sort, 2),
    42: (lc_merge, 4),
    43: (lc_many, 4),
    44: (lc_best, 3),
    45: (lc_nth, 2),
}
