"""The store's calls that put columns in, look at them, make, cast and compare them."""

from lanesort.checks import check_as_many, check_fits, check_how_many, check_kind, check_marks
from lanesort.checks import check_one_kind, check_rows, check_slots, check_up_to
from lanesort.columns import Column
from lanesort.kinds import ALL_BITS, MARKS, highest_bit, highest_number, is_floating, is_whole
from lanesort.kinds import lowest_number, numbers_of, order_keys

# For each op of lc_compare the mark of a row that is below the other, the same, above it.
COMPARED = ((1, 0, 0), (1, 1, 0), (0, 1, 0), (1, 0, 1), (0, 1, 1), (0, 0, 1))


def lc_open(store):
    for slot in range(16):
        store.drop(slot)
    return [0]


def lc_put(store, slot, kind, values):
    check_slots((slot,))
    check_kind(kind)
    check_how_many(len(values))
    return store.put(slot, kind, values)


def lc_get(store, slot, kind, begin, n):
    check_slots((slot,))
    check_kind(kind)
    check_how_many(begin)
    check_how_many(n)
    column = store.column_in(slot)
    check_fits(column.kind == kind)
    check_rows(begin + n <= len(column.rows))
    return [0] + column.rows[begin:begin + n]


def lc_drop(store, slot):
    check_slots((slot,))
    store.column_in(slot)
    store.drop(slot)
    return [0]


def lc_look(store, slot):
    check_slots((slot,))
    column = store.column_in(slot)
    return [0, column.kind, len(column.rows)]


def lc_fill(store, d, kind, n, value):
    check_slots((d,))
    check_kind(kind)
    check_how_many(n)
    return store.put(d, kind, [value & ALL_BITS[kind]] * n)


def lc_count(store, d, kind, n, first, step):
    check_slots((d,))
    check_kind(kind)
    check_how_many(n)
    check_fits(is_whole(kind))
    full = ALL_BITS[kind]
    return store.put(d, kind, [(first + row * step) & full for row in range(n)])


def lc_cast(store, d, a, kind, way):
    check_slots((d, a))
    check_kind(kind)
    check_up_to(way, 1)
    column = store.column_in(a)
    check_fits(not is_floating(column.kind) and not is_floating(kind))
    return store.put(d, kind, cast_rows(column, kind, way))


def cast_rows(column, kind, way):
    full = ALL_BITS[kind]
    if column.kind == MARKS:
        return [full if mark else 0 for mark in column.rows]
    if kind == MARKS:
        high = highest_bit(column.kind)
        return [1 if bits & high else 0 for bits in column.rows]
    numbers = numbers_of(column)
    if way == 1:
        lowest = lowest_number(kind)
        highest = highest_number(kind)
        numbers = [min(max(number, lowest), highest) for number in numbers]
    return [number & full for number in numbers]


def lc_compare(store, d, a, b, op):
    check_slots((d, a, b))
    check_up_to(op, 5)
    one = store.column_in(a)
    other = store.column_in(b)
    check_one_kind((one, other))
    check_as_many((one, other))
    marks = COMPARED[op]
    rows = [compared(marks, x, y) for x, y in zip(order_keys(one), order_keys(other))]
    return store.put(d, MARKS, rows)


def compared(marks, x, y):
    if x < y:
        return marks[0]
    return marks[1] if x == y else marks[2]


def lc_between(store, d, a, lo, hi):
    check_slots((d, a))
    column = store.column_in(a)
    full = ALL_BITS[column.kind]
    bounds = order_keys(Column(column.kind, [lo & full, hi & full]))
    low = bounds[0]
    high = bounds[1]
    return store.put(d, MARKS, [1 if low <= key <= high else 0 for key in order_keys(column)])


def lc_marks(store, d, a, b, c, table):
    check_slots((d, a, b, c))
    check_up_to(table, 255)
    one = store.column_in(a)
    two = store.column_in(b)
    three = store.column_in(c)
    for column in (one, two, three):
        check_marks(column)
    check_as_many((one, two, three))
    rows = [table >> (4 * p + 2 * q + r) & 1 for p, q, r in zip(one.rows, two.rows, three.rows)]
    return store.put(d, MARKS, rows)


BASIC_CALLS = {
    10: (lc_open, 0),
    11: (lc_put, 2),
    12: (lc_get, 4),
    13: (lc_drop, 1),
    14: (lc_look, 1),
    15: (lc_fill, 4),
    16: (lc_count, 5),
    17: (lc_cast, 4),
    20: (lc_compare, 4),
    21: (lc_between, 4),
    22: (lc_marks, 5),
}
