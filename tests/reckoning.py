"""A plain reckoning of the store's calls, for small columns: it counts and compares, and sorts nothing."""

from helper import WIDTHS


class Refusal(Exception):
    def __init__(self, number):
        super().__init__(number)
        self.number = number


def ask(number, holds):
    if not holds:
        raise Refusal(number)


def stands_for(kind, bits):
    """What a value's order goes by."""
    if 4 <= kind <= 7 and bits >= 2 ** (WIDTHS[kind] - 1):
        return bits - 2 ** WIDTHS[kind]
    if kind in (8, 9):
        signed = bits >= 2 ** (WIDTHS[kind] - 1)
        return (0, -bits) if signed else (1, bits)
    return bits


def places(keys):
    """The keys' places in order, by counting for each how many come before it."""
    found = [None] * len(keys)
    for i, key in enumerate(keys):
        found[sum(1 for j, other in enumerate(keys) if (other, j) < (key, i))] = i
    return found


def in_order(keys):
    return all(not keys[i] > keys[i + 1] for i in range(len(keys) - 1))


class Reckoning:
    def __init__(self):
        self.slots = {}

    def answer(self, name, *arguments):
        before = dict(self.slots)
        try:
            return getattr(self, name)(*arguments)
        except Refusal as refusal:
            if self.slots != before:
                raise AssertionError("the reckoning changed something") from refusal
            return [refusal.number]

    def columns(self, *slots):
        """The kinds, then the rows."""
        ask(-3, all(slot in self.slots for slot in slots))
        return [self.slots[slot][0] for slot in slots], [self.slots[slot][1] for slot in slots]

    def keys(self, slot):
        kind, rows = self.slots[slot]
        return [stands_for(kind, bits) for bits in rows]

    def make(self, d, kind, rows):
        self.slots[d] = (kind, list(rows))
        return [len(rows)]

    def lc_open(self):
        self.slots = {}
        return [0]

    def lc_put(self, slot, kind, values):
        ask(-2, slot < 16 and kind < 11)
        return self.make(slot, kind, values)

    def lc_get(self, slot, kind, begin, n):
        ask(-2, slot < 16 and kind < 11 and begin <= 65536 and n <= 65536)
        [own], [rows] = self.columns(slot)
        ask(-4, kind == own)
        ask(-5, begin + n <= len(rows))
        return [0] + [rows[begin + i] for i in range(n)]

    def lc_drop(self, slot):
        ask(-2, slot < 16)
        self.columns(slot)
        self.slots.pop(slot)
        return [0]

    def lc_look(self, slot):
        ask(-2, slot < 16)
        [kind], [rows] = self.columns(slot)
        return [0, kind, len(rows)]

    def lc_fill(self, d, kind, n, value):
        ask(-2, d < 16 and kind < 11 and n <= 65536)
        return self.make(d, kind, [value % 2 ** WIDTHS[kind] for _ in range(n)])

    def lc_count(self, d, kind, n, first, step):
        ask(-2, d < 16 and kind < 11 and n <= 65536)
        ask(-4, kind < 8)
        return self.make(d, kind, [(first + i * step) % 2 ** WIDTHS[kind] for i in range(n)])

    def lc_cast(self, d, a, kind, way):
        ask(-2, d < 16 and a < 16 and kind < 11 and way < 2)
        [own], [rows] = self.columns(a)
        ask(-4, own not in (8, 9) and kind not in (8, 9))
        bound = 2 ** WIDTHS[kind]
        lowest = -(bound // 2) if 4 <= kind <= 7 else 0
        made = []
        for bits in rows:
            number = stands_for(own, bits)
            if own == 10:
                made.append((bound - 1) * bits)
            elif kind == 10:
                made.append(bits // 2 ** (WIDTHS[own] - 1))
            elif way == 1 and number < lowest:
                made.append(lowest % bound)
            elif way == 1 and number > lowest + bound - 1:
                made.append((lowest + bound - 1) % bound)
            else:
                made.append(number % bound)
        return self.make(d, kind, made)

    def lc_compare(self, d, a, b, op):
        ask(-2, max(d, a, b) < 16 and op < 6)
        kinds, [one, other] = self.columns(a, b)
        ask(-4, kinds[0] == kinds[1])
        ask(-5, len(one) == len(other))
        marks = []
        for x, y in zip(self.keys(a), self.keys(b)):
            marks.append(int([x < y, not x > y, x == y, x != y, not x < y, x > y][op]))
        return self.make(d, 10, marks)

    def lc_between(self, d, a, lo, hi):
        ask(-2, max(d, a) < 16)
        [kind], _ = self.columns(a)
        low, high = (stands_for(kind, bound % 2 ** WIDTHS[kind]) for bound in (lo, hi))
        return self.make(d, 10, [0 if x < low or x > high else 1 for x in self.keys(a)])

    def lc_marks(self, d, a, b, c, table):
        ask(-2, max(d, a, b, c) < 16 and table < 256)
        kinds, rows = self.columns(a, b, c)
        ask(-4, kinds == [10, 10, 10])
        ask(-5, len(rows[0]) == len(rows[1]) == len(rows[2]))
        bits = f"{table:08b}"[::-1]
        return self.make(d, 10, [int(bits[4 * p + 2 * q + r]) for p, q, r in zip(*rows)])

    def lc_pick(self, d, a, marks):
        ask(-2, max(d, a, marks) < 16)
        [kind, other], [rows, marked] = self.columns(a, marks)
        ask(-4, other == 10)
        ask(-5, len(rows) == len(marked))
        return self.make(d, kind, [rows[i] for i in range(len(rows)) if marked[i] == 1])

    def lc_lay(self, d, a, marks, b):
        ask(-2, max(d, a, marks, b) < 16)
        kinds, [upper, marked, under] = self.columns(a, marks, b)
        ask(-4, kinds[1] == 10 and kinds[0] == kinds[2])
        ask(-5, len(marked) == len(under) and marked.count(1) == len(upper))
        made = [upper[marked[:i].count(1)] if marked[i] == 1 else under[i] for i in range(len(under))]
        return self.make(d, kinds[2], made)

    def lc_choose(self, d, marks, a, b):
        ask(-2, max(d, a, marks, b) < 16)
        kinds, [marked, one, other] = self.columns(marks, a, b)
        ask(-4, kinds[0] == 10 and kinds[1] == kinds[2])
        ask(-5, len(marked) == len(one) == len(other))
        return self.make(d, kinds[1], [(other, one)[marked[i]][i] for i in range(len(one))])

    def lc_from(self, d, a, at):
        ask(-2, max(d, a, at) < 16)
        kinds, [rows, numbers] = self.columns(a, at)
        ask(-4, kinds[1] == 2)
        ask(-5, all(number < len(rows) for number in numbers))
        return self.make(d, kinds[0], [rows[number] for number in numbers])

    def lc_to(self, d, a, at, b):
        ask(-2, max(d, a, at, b) < 16)
        kinds, [rows, numbers, under] = self.columns(a, at, b)
        ask(-4, kinds[1] == 2 and kinds[0] == kinds[2])
        ask(-5, len(numbers) == len(rows) and all(number < len(under) for number in numbers))
        made = []
        for place, row in enumerate(under):
            there = [rows[i] for i in range(len(rows)) if numbers[i] == place]
            made.append(there[-1] if there else row)
        return self.make(d, kinds[2], made)

    def lc_undo(self, d, p):
        ask(-2, max(d, p) < 16)
        [kind], [rows] = self.columns(p)
        ask(-4, kind == 2)
        ask(-5, all(rows.count(number) == 1 for number in range(len(rows))))
        return self.make(d, 2, [rows.index(number) for number in range(len(rows))])

    def lc_slice(self, d, a, b, begin, n):
        ask(-2, max(d, a, b) < 16 and begin <= 131072 and n <= 65536)
        kinds, [one, other] = self.columns(a, b)
        ask(-4, kinds[0] == kinds[1])
        ask(-5, begin + n <= len(one) + len(other))
        both = one + other
        return self.make(d, kinds[0], [both[begin + i] for i in range(n)])

    def lc_rearrange(self, d, a, how):
        ask(-2, max(d, a) < 16 and how < 3)
        [kind], [rows] = self.columns(a)
        ask(-5, how < 2 or len(rows) % 2 == 0)
        n = len(rows)
        numbers = (
            [n - 1 - i for i in range(n)],
            [i for i in range(n) if i % 2 == 0] + [i for i in range(n) if i % 2 == 1],
            [i // 2 + n // 2 * (i % 2) for i in range(n)],
        )[how]
        return self.make(d, kind, [rows[number] for number in numbers])

    def lc_order(self, d, by):
        ask(-2, d < 16 and 1 <= len(by) <= 4 and all(byte < 32 for byte in by))
        _, rows = self.columns(*[byte % 16 for byte in by])
        ask(-5, all(len(row) == len(rows[0]) for row in rows))
        ranks = []
        for byte in by:
            keys = self.keys(byte % 16)
            below = [sum(1 for other in keys if other < key) for key in keys]
            ranks.append(below if byte < 16 else [-rank for rank in below])
        return self.make(d, 2, places(list(zip(*ranks))))

    def lc_sort(self, a, b):
        ask(-2, max(a, b) < 16 and a != b)
        kinds, [one, other] = self.columns(a, b)
        ask(-5, len(one) == len(other))
        order = places(self.keys(a))
        self.make(b, kinds[1], [other[row] for row in order])
        return self.make(a, kinds[0], [one[row] for row in order])

    def lc_merge(self, d, e, a, b):
        ask(-2, max(d, e, a, b) < 16 and d != e)
        kinds, [one, other] = self.columns(a, b)
        ask(-4, kinds[0] == kinds[1])
        ask(-5, in_order(self.keys(a)) and in_order(self.keys(b)))
        ask(-1, len(one) + len(other) <= 65536)
        order = places(self.keys(a) + self.keys(b))
        self.make(e, 2, order)
        return self.make(d, kinds[0], [(one + other)[row] for row in order])
