"""Columns, and the store that keeps them in its slots."""

from lanesort.refusals import NoColumn


class Column:
    """A kind and each row's bits. A column's list is never changed, so that two may share one."""

    def __init__(self, kind, rows):
        self.kind = kind
        self.rows = rows


class Store:
    """Slots 0 to 15, each with a column or without."""

    def __init__(self):
        self.slots = [None] * 16

    def column_in(self, slot):
        column = self.slots[slot]
        if column is None:
            raise NoColumn()
        return column

    def put(self, slot, kind, rows):
        """The answer of most calls: how many rows the slot's column has then."""
        self.slots[slot] = Column(kind, rows)
        return [len(rows)]

    def drop(self, slot):
        self.slots[slot] = None
