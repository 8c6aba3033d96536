"""The store's calls that move rows."""

from lanesort.checks import check_all_below, check_as_many, check_how_many, check_marks
from lanesort.checks import check_one_kind, check_row_numbers, check_rows, check_slots, check_up_to
from lanesort.kinds import ROW_NUMBERS
from lanesort.ordering import inverse


def lc_pick(store, d, a, marks):
    check_slots((d, a, marks))
    column = store.column_in(a)
    marked = store.column_in(marks)
    check_marks(marked)
    check_as_many((column, marked))
    return store.put(d, column.kind, [row for row, mark in zip(column.rows, marked.rows) if mark])


def lc_lay(store, d, a, marks, b):
    check_slots((d, a, marks, b))
    upper = store.column_in(a)
    marked = store.column_in(marks)
    under = store.column_in(b)
    check_marks(marked)
    check_one_kind((upper, under))
    check_as_many((marked, under))
    check_rows(len(upper.rows) == sum(marked.rows))
    laid = []
    taken = 0
    for mark, row in zip(marked.rows, under.rows):
        laid.append(upper.rows[taken] if mark else row)
        taken += mark
    return store.put(d, under.kind, laid)


def lc_choose(store, d, marks, a, b):
    check_slots((d, marks, a, b))
    marked = store.column_in(marks)
    one = store.column_in(a)
    other = store.column_in(b)
    check_marks(marked)
    check_one_kind((one, other))
    check_as_many((marked, one, other))
    rows = [x if mark else y for mark, x, y in zip(marked.rows, one.rows, other.rows)]
    return store.put(d, one.kind, rows)


def lc_from(store, d, a, at):
    check_slots((d, a, at))
    column = store.column_in(a)
    places = store.column_in(at)
    check_row_numbers(places)
    check_all_below(places.rows, len(column.rows))
    return store.put(d, column.kind, [column.rows[place] for place in places.rows])


def lc_to(store, d, a, at, b):
    check_slots((d, a, at, b))
    column = store.column_in(a)
    places = store.column_in(at)
    under = store.column_in(b)
    check_row_numbers(places)
    check_one_kind((column, under))
    check_as_many((column, places))
    check_all_below(places.rows, len(under.rows))
    rows = list(under.rows)
    for place, row in zip(places.rows, column.rows):
        rows[place] = row
    return store.put(d, under.kind, rows)


def lc_undo(store, d, p):
    check_slots((d, p))
    places = store.column_in(p)
    check_row_numbers(places)
    check_rows(sorted(places.rows) == list(range(len(places.rows))))
    return store.put(d, ROW_NUMBERS, inverse(places.rows))


def lc_slice(store, d, a, b, begin, n):
    check_slots((d, a, b))
    check_up_to(begin, 131072)
    check_how_many(n)
    one = store.column_in(a)
    other = store.column_in(b)
    check_one_kind((one, other))
    rows = one.rows + other.rows
    check_rows(begin + n <= len(rows))
    return store.put(d, one.kind, rows[begin:begin + n])


def lc_rearrange(store, d, a, how):
    check_slots((d, a))
    check_up_to(how, 2)
    column = store.column_in(a)
    check_rows(how != 2 or len(column.rows) % 2 == 0)
    return store.put(d, column.kind, rearranged(column.rows, how))


def rearranged(rows, how):
    if how == 0:
        return rows[::-1]
    if how == 1:
        return rows[::2] + rows[1::2]
    half = len(rows) // 2
    woven = []
    for one, other in zip(rows[:half], rows[half:]):
        woven.append(one)
        woven.append(other)
    return woven


MOVING_CALLS = {
    30: (lc_pick, 3),
    31: (lc_lay, 4),
    32: (lc_choose, 4),
    33: (lc_from, 3),
    34: (lc_to, 4),
    35: (lc_undo, 2),
    36: (lc_slice, 5),
    37: (lc_rearrange, 3),
}
