"""What is refused: one error class for each number that a refusal is answered by."""


class OutOfRange(Exception):
    """-2: a slot, a kind or a number isn't among those told, or two slots are one."""


class NoColumn(Exception):
    """-3: a slot has no column."""


class KindsDontFit(Exception):
    """-4: kinds don't fit."""


class RowsDontFit(Exception):
    """-5: what's in the columns doesn't fit."""


class TooManyRows(Exception):
    """-1: a column would have more than 65536 rows."""
