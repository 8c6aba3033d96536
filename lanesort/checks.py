"""What is looked at before a call changes anything; what doesn't hold is refused."""

from lanesort.kinds import MARKS, ROW_NUMBERS
from lanesort.refusals import KindsDontFit, OutOfRange, RowsDontFit, TooManyRows

MOST_ROWS = 65536


def check_up_to(number, last):
    if number > last:
        raise OutOfRange()


def check_from_one_to(number, last):
    if number == 0:
        raise OutOfRange()
    check_up_to(number, last)


def check_slots(slots):
    for slot in slots:
        check_up_to(slot, 15)


def check_two_slots(one, other):
    if one == other:
        raise OutOfRange()


def check_kind(kind):
    check_up_to(kind, MARKS)


def check_how_many(number):
    """n, k and from, where no other range is told."""
    check_up_to(number, MOST_ROWS)


def check_fits(kind_fits):
    if not kind_fits:
        raise KindsDontFit()


def check_one_kind(columns):
    for column in columns:
        check_fits(column.kind == columns[0].kind)


def check_marks(column):
    check_fits(column.kind == MARKS)


def check_row_numbers(column):
    check_fits(column.kind == ROW_NUMBERS)


def check_rows(rows_fit):
    if not rows_fit:
        raise RowsDontFit()


def check_as_many(columns):
    for column in columns:
        check_rows(len(column.rows) == len(columns[0].rows))


def check_all_below(numbers, bound):
    check_rows(max(numbers, default=-1) < bound)


def check_in_order(keys):
    # Sorting what is in order already goes through it just once.
    check_rows(keys == sorted(keys))


def check_rising(keys):
    check_rows(keys == sorted(set(keys)))


def check_size(how_many):
    if how_many > MOST_ROWS:
        raise TooManyRows()
