"""The store's calls that cut rows into parts and fold groups of them."""

from lanesort.checks import check_all_below, check_as_many, check_fits, check_from_one_to, check_how_many
from lanesort.checks import check_in_order, check_one_kind, check_row_numbers, check_rows, check_size
from lanesort.checks import check_slots, check_two_slots, check_up_to
from lanesort.kinds import ALL_BITS, MARKS, ROW_NUMBERS, is_whole, order_keys, rows_of_keys
from lanesort.ordering import counts_not_above, order_of, sorted_by


def lc_parts(store, d, e, a, s):
    check_slots((d, e, a, s))
    check_two_slots(d, e)
    column = store.column_in(a)
    bounds = store.column_in(s)
    check_one_kind((column, bounds))
    bound_keys = order_keys(bounds)
    check_in_order(bound_keys)
    check_size(len(bound_keys) + 1)
    parts = counts_not_above(bound_keys, order_keys(column))
    store.put(e, ROW_NUMBERS, part_begins(parts, len(bound_keys) + 1))
    return store.put(d, ROW_NUMBERS, order_of(parts))


def part_begins(parts, how_many):
    sizes = [0] * how_many
    for part in parts:
        sizes[part] += 1
    begins = []
    begin = 0
    for size in sizes:
        begins.append(begin)
        begin += size
    return begins


def lc_shares(store, d, a, k):
    check_slots((d, a))
    check_from_one_to(k, 4096)
    column = store.column_in(a)
    n = len(column.rows)
    check_rows(n > 0)
    keys = sorted(order_keys(column))
    bounds = [keys[share * n // k] for share in range(1, k)]
    return store.put(d, column.kind, rows_of_keys(column.kind, bounds))


def added(total, item):
    return total + item


def lower_one(total, item):
    return min(total, item)


def higher_one(total, item):
    return max(total, item)


def both(total, item):
    return total & item


def either(total, item):
    return total | item


def one_of_them(total, item):
    return total ^ item


def first_one(total, item):
    return total


def last_one(total, item):
    return item


# By op: how a group's row is taken in by what has come of the rows before it.
TAKEN_IN = (added, added, lower_one, higher_one, both, either, one_of_them, first_one, last_one)


def check_op(op, kind):
    if op in (1, 4, 5, 6):
        check_fits(is_whole(kind))
    elif op != 0:
        check_fits(kind != MARKS)


def lc_fold(store, d, g, n, a, op):
    check_slots((d, g, a))
    check_how_many(n)
    check_up_to(op, 8)
    groups = store.column_in(g)
    column = store.column_in(a)
    check_row_numbers(groups)
    check_op(op, column.kind)
    check_groups(groups, n, column)
    # Of each group dict keeps what comes last: that is what all its rows have come to.
    totals = dict(zip(groups.rows, running_totals(groups.rows, column, op)))
    return store.put(d, kind_of_totals(column.kind, op), [totals.get(group, 0) for group in range(n)])


def check_groups(groups, n, column):
    check_as_many((groups, column))
    check_all_below(groups.rows, n)


def lc_running(store, d, g, a, op):
    check_slots((d, g, a))
    check_up_to(op, 8)
    groups = store.column_in(g)
    column = store.column_in(a)
    check_op(op, column.kind)
    check_as_many((groups, column))
    totals = running_totals(groups.rows, column, op)
    return store.put(d, kind_of_totals(column.kind, op), totals)


def kind_of_totals(kind, op):
    return ROW_NUMBERS if op == 0 else kind


def running_totals(groups, column, op):
    """For each row what op makes of its group's rows up to it."""
    take_in = TAKEN_IN[op]
    totals = {}
    found = []
    for group, item in zip(groups, items_of(column, op)):
        totals[group] = take_in(totals[group], item) if group in totals else item
        found.append(totals[group])
    if op in (2, 3):
        return rows_of_keys(column.kind, found)
    full = ALL_BITS[kind_of_totals(column.kind, op)]
    return [total & full for total in found]


def items_of(column, op):
    if op == 0:
        return [1] * len(column.rows)
    return order_keys(column) if op in (2, 3) else column.rows


def lc_tops(store, d, g, n, a, k):
    check_slots((d, g, a))
    check_how_many(n)
    check_how_many(k)
    groups = store.column_in(g)
    column = store.column_in(a)
    check_row_numbers(groups)
    check_groups(groups, n, column)
    taken = {}
    tops = []
    for row in sorted_by(order_of(order_keys(column)), groups.rows):
        group = groups.rows[row]
        taken[group] = taken.get(group, 0) + 1
        if taken[group] <= k:
            tops.append(row)
    return store.put(d, ROW_NUMBERS, tops)


GROUPING_CALLS = {
    60: (lc_parts, 4),
    61: (lc_shares, 3),
    62: (lc_fold, 5),
    63: (lc_running, 4),
    64: (lc_tops, 5),
}
