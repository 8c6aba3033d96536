"""The kinds of columns: how wide they are, how they are ordered, which numbers they stand for."""

ROW_NUMBERS = 2
MARKS = 10
NO_ROW = 4294967295

# All bits of a value of each kind; kinds 0 to 10.
ALL_BITS = (
    255, 65535, 4294967295, 18446744073709551615,
    255, 65535, 4294967295, 18446744073709551615,
    4294967295, 18446744073709551615,
    1,
)


def is_whole(kind):
    return kind <= 7


def is_signed(kind):
    return 4 <= kind <= 7


def is_floating(kind):
    return 8 <= kind <= 9


def highest_bit(kind):
    return ALL_BITS[kind] // 2 + 1


def order_keys(column):
    """For each row a whole number from 0 on; these are ordered, and the same, as the values are."""
    high = highest_bit(column.kind)
    full = ALL_BITS[column.kind]
    if is_signed(column.kind):
        return [bits ^ high for bits in column.rows]
    if is_floating(column.kind):
        # totalOrder: with the sign the other way round, and before all without.
        return [bits ^ full if bits & high else bits ^ high for bits in column.rows]
    return list(column.rows)


def rows_of_keys(kind, keys):
    """The values' bits, out of order_keys' numbers."""
    high = highest_bit(kind)
    full = ALL_BITS[kind]
    if is_signed(kind):
        return [key ^ high for key in keys]
    if is_floating(kind):
        return [key ^ high if key & high else key ^ full for key in keys]
    return list(keys)


def numbers_of(column):
    """The whole numbers that a column's rows stand for."""
    if not is_signed(column.kind):
        return list(column.rows)
    high = highest_bit(column.kind)
    return [(bits ^ high) - high for bits in column.rows]


def lowest_number(kind):
    return -highest_bit(kind) if is_signed(kind) else 0


def highest_number(kind):
    return highest_bit(kind) - 1 if is_signed(kind) else ALL_BITS[kind]
