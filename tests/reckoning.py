"""A plain reckoning of the store's calls, for small columns: it counts and compares, and sorts nothing."""

from helper import WIDTHS


class Refusal(Exception):
    def __init__(self, number):
        super().__init__(number)
        self.number = number


def ask(number, holds):
    if not holds:
        raise Refusal(number)


def stands_for(kind, bits):
    """What a value's order goes by."""
    if 4 <= kind <= 7 and bits >= 2 ** (WIDTHS[kind] - 1):
        return bits - 2 ** WIDTHS[kind]
    if kind in (8, 9):
        signed = bits >= 2 ** (WIDTHS[kind] - 1)
        return (0, -bits) if signed else (1, bits)
    return bits


def places(keys):
    """The keys' places in order, by counting for each how many come before it."""
    found = [None] * len(keys)
    for i, key in enumerate(keys):
        found[sum(1 for j, other in enumerate(keys) if (other, j) < (key, i))] = i
    return found


def in_order(keys):
    return all(not keys[i] > keys[i + 1] for i in range(len(keys) - 1))


class Reckoning:
    def __init__(self):
        self.slots = {}

    def answer(self, name, *arguments):
        before = dict(self.slots)
        try:
            return getattr(self, name)(*arguments)
        except Refusal as refusal:
            if self.slots != before:
                raise AssertionError("the reckoning changed something") from refusal
            return [refusal.number]

    def columns(self, *slots):
        """The kinds, then the rows."""
        ask(-3, all(slot in self.slots for slot in slots))
        return [self.slots[slot][0] for slot in slots], [self.slots[slot][1] for slot in slots]

    def keys(self, slot):
        kind, rows = self.slots[slot]
        return [stands_for(kind, bits) for bits in rows]

    def make(self, d, kind, rows):
        self.slots[d] = (kind, list(rows))
        return [len(rows)]

    def lc_open(self):
        self.slots = {}
        return [0]

    def lc_put(self, slot, kind, values):
        ask(-2, slot < 16 and kind < 11)
        return self.make(slot, kind, values)

    def lc_get(self, slot, kind, begin, n):
        ask(-2, slot < 16 and kind < 11 and begin <= 65536 and n <= 65536)
        [own], [rows] = self.columns(slot)
        ask(-4, kind == own)
        ask(-5, begin + n <= len(rows))
        return [0] + [rows[begin + i] for i in range(n)]

    def lc_drop(self, slot):
        ask(-2, slot < 16)
        self.columns(slot)
        self.slots.pop(slot)
        return [0]

    def lc_look(self, slot):
        ask(-2, slot < 16)
        [kind], [rows] = self.columns(slot)
        return [0, kind, len(rows)]

    def lc_fill(self, d, kind, n, value):
        ask(-2, d < 16 and kind < 11 and n <= 65536)
        return self.make(d, kind, [value % 2 ** WIDTHS[kind] for _ in range(n)])

    def lc_count(self, d, kind, n, first, step):
        ask(-2, d < 16 and kind < 11 and n <= 65536)
        ask(-4, kind < 8)
        return self.make(d, kind, [(first + i * step) % 2 ** WIDTHS[kind] for i in range(n)])

    def lc_cast(self, d, a, kind, way):
        ask(-2, d < 16 and a < 16 and kind < 11 and way < 2)
        [own], [rows] = self.columns(a)
        ask(-4, own not in (8, 9) and kind not in (8, 9))
        bound = 2 ** WIDTHS[kind]
        lowest = -(bound // 2) if 4 <= kind <= 7 else 0
        made = []
        for bits in rows:
            number = stands_for(own, bits)
            if own == 10:
                made.append((bound - 1) * bits)
            elif kind == 10:
                made.append(bits // 2 ** (WIDTHS[own] - 1))
            elif way == 1 and number < lowest:
                made.append(lowest % bound)
            elif way == 1 and number > lowest + bound - 1:
                made.append((lowest + bound - 1) % bound)
            else:
                made.append(number % bound)
        return self.make(d, kind, made)

    def lc_compare(self, d, a, b, op):
        ask(-2, max(d, a, b) < 16 and op < 6)
        kinds, [one, other] = self.columns(a, b)
        ask(-4, kinds[0] == kinds[1])
        ask(-5, len(one) == len(other))
        marks = []
        for x, y in zip(self.keys(a), self.keys(b)):
            marks.append(int([x < y, not x > y, x == y, x != y, not x < y, x > y][op]))
        return self.make(d, 10, marks)

    def lc_between(self, d, a, lo, hi):
        ask(-2, max(d, a) < 16)
        [kind], _ = self.columns(a)
        low, high = (stands_for(kind, bound % 2 ** WIDTHS[kind]) for bound in (lo, hi))
        return self.make(d, 10, [0 if x < low or x > high else 1 for x in self.keys(a)])

    def lc_marks(self, d, a, b, c, table):
        ask(-2, max(d, a, b, c) < 16 and table < 256)
        kinds, rows = self.columns(a, b, c)
        ask(-4, kinds == [10, 10, 10])
        ask(-5, len(rows[0]) == len(rows[1]) == len(rows[2]))
        bits = f"{table:08b}"[::-1]
        return self.make(d, 10, [int(bits[4 * p + 2 * q + r]) for p, q, r in zip(*rows)])

    def lc_pick(self, d, a, marks):
        ask(-2, max(d, a, marks) < 16)
        [kind, other], [rows, marked] = self.columns(a, marks)
        ask(-4, other == 10)
        ask(-5, len(rows) == len(marked))
        return self.make(d, kind, [rows[i] for i in range(len(rows)) if marked[i] == 1])

    def lc_lay(self, d, a, marks, b):
        ask(-2, max(d, a, marks, b) < 16)
        kinds, [upper, marked, under] = self.columns(a, marks, b)
        ask(-4, kinds[1] == 10 and kinds[0] == kinds[2])
        ask(-5, len(marked) == len(under) and marked.count(1) == len(upper))
        made = [upper[marked[:i].count(1)] if marked[i] == 1 else under[i] for i in range(len(under))]
        return self.make(d, kinds[2], made)

    def lc_choose(self, d, marks, a, b):
        ask(-2, max(d, a, marks, b) < 16)
        kinds, [marked, one, other] = self.columns(marks, a, b)
        ask(-4, kinds[0] == 10 and kinds[1] == kinds[2])
        ask(-5, len(marked) == len(one) == len(other))
        return self.make(d, kinds[1], [(other, one)[marked[i]][i] for i in range(len(one))])

    def lc_from(self, d, a, at):
        ask(-2, max(d, a, at) < 16)
        kinds, [rows, numbers] = self.columns(a, at)
        ask(-4, kinds[1] == 2)
        ask(-5, all(number < len(rows) for number in numbers))
        return self.make(d, kinds[0], [rows[number] for number in numbers])

    def lc_to(self, d, a, at, b):
        ask(-2, max(d, a, at, b) < 16)
        kinds, [rows, numbers, under] = self.columns(a, at, b)
        ask(-4, kinds[1] == 2 and kinds[0] == kinds[2])
        ask(-5, len(numbers) == len(rows) and all(number < len(under) for number in numbers))
        made = []
        for place, row in enumerate(under):
            there = [rows[i] for i in range(len(rows)) if numbers[i] == place]
            made.append(there[-1] if there else row)
        return self.make(d, kinds[2], made)

    def lc_undo(self, d, p):
        ask(-2, max(d, p) < 16)
        [kind], [rows] = self.columns(p)
        ask(-4, kind == 2)
        ask(-5, all(rows.count(number) == 1 for number in range(len(rows))))
        return self.make(d, 2, [rows.index(number) for number in range(len(rows))])

    def lc_slice(self, d, a, b, begin, n):
        ask(-2, max(d, a, b) < 16 and begin <= 131072 and n <= 65536)
        kinds, [one, other] = self.columns(a, b)
        ask(-4, kinds[0] == kinds[1])
        ask(-5, begin + n <= len(one) + len(other))
        both = one + other
        return self.make(d, kinds[0], [both[begin + i] for i in range(n)])

    def lc_rearrange(self, d, a, how):
        ask(-2, max(d, a) < 16 and how < 3)
        [kind], [rows] = self.columns(a)
        ask(-5, how < 2 or len(rows) % 2 == 0)
        n = len(rows)
        numbers = (
            [n - 1 - i for i in range(n)],
            [i for i in range(n) if i % 2 == 0] + [i for i in range(n) if i % 2 == 1],
            [i // 2 + n // 2 * (i % 2) for i in range(n)],
        )[how]
        return self.make(d, kind, [rows[number] for number in numbers])

    def lc_order(self, d, by):
        ask(-2, d < 16 and 1 <= len(by) <= 4 and all(byte < 32 for byte in by))
        _, rows = self.columns(*[byte % 16 for byte in by])
        ask(-5, all(len(row) == len(rows[0]) for row in rows))
        ranks = []
        for byte in by:
            keys = self.keys(byte % 16)
            below = [sum(1 for other in keys if other < key) for key in keys]
            ranks.append(below if byte < 16 else [-rank for rank in below])
        return self.make(d, 2, places(list(zip(*ranks))))

    def lc_sort(self, a, b):
        ask(-2, max(a, b) < 16 and a != b)
        kinds, [one, other] = self.columns(a, b)
        ask(-5, len(one) == len(other))
        order = places(self.keys(a))
        self.make(b, kinds[1], [other[row] for row in order])
        return self.make(a, kinds[0], [one[row] for row in order])

    def lc_merge(self, d, e, a, b):
        ask(-2, max(d, e, a, b) < 16 and d != e)
        kinds, [one, other] = self.columns(a, b)
        ask(-4, kinds[0] == kinds[1])
        ask(-5, in_order(self.keys(a)) and in_order(self.keys(b)))
        ask(-1, len(one) + len(other) <= 65536)
        order = places(self.keys(a) + self.keys(b))
        self.make(e, 2, order)
        return self.make(d, kinds[0], [(one + other)[row] for row in order])

    def lc_many(self, d, e, a, s):
        ask(-2, max(d, e, a, s) < 16 and d != e)
        kinds, [rows, begins] = self.columns(a, s)
        keys = self.keys(a)
        ask(-4, kinds[1] == 2)
        ask(-5, all(begin < len(rows) for begin in begins))
        ask(-5, begins[:1] == [0] or rows == [])
        ask(-5, all(begins[i] < begins[i + 1] for i in range(len(begins) - 1)))
        for begin, end in zip(begins, begins[1:] + [len(rows)]):
            ask(-5, in_order(keys[begin:end]))
        order = places(keys)
        self.make(e, 2, order)
        return self.make(d, kinds[0], [rows[row] for row in order])

    def lc_best(self, d, a, k):
        ask(-2, max(d, a) < 16 and k <= 65536)
        _, [rows] = self.columns(a)
        ask(-5, len(rows) >= k)
        return self.make(d, 2, places(self.keys(a))[:k])

    def lc_nth(self, a, k):
        ask(-2, a < 16 and k <= 65536)
        _, [rows] = self.columns(a)
        ask(-5, k < len(rows))
        return [0, rows[places(self.keys(a))[k]]]

    def lc_ranks(self, d, a, how):
        ask(-2, max(d, a) < 16 and how < 4)
        self.columns(a)
        keys = self.keys(a)
        ranks = []
        for i, key in enumerate(keys):
            below = sum(1 for other in keys if other < key)
            ranks.append([
                below + keys[:i].count(key),
                below,
                below + keys.count(key) - 1,
                len({other for other in keys if other < key}),
            ][how])
        return self.make(d, 2, ranks)

    def lc_classes(self, d, e, a):
        ask(-2, max(d, e, a) < 16 and d != e)
        [kind], [rows] = self.columns(a)
        keys = self.keys(a)
        values = [rows[i] for i in places(keys) if keys[i] not in keys[:i]]
        self.make(e, kind, values)
        return self.make(d, 2, [values.index(bits) for bits in rows])

    def lc_earlier(self, d, a):
        ask(-2, max(d, a) < 16)
        _, [rows] = self.columns(a)
        return self.make(d, 2, [rows[:i].count(bits) for i, bits in enumerate(rows)])

    def lc_runs(self, d, e, a):
        ask(-2, max(d, e, a) < 16 and d != e)
        _, [rows] = self.columns(a)
        begins = []
        lengths = []
        while sum(lengths) < len(rows):
            begin = sum(lengths)
            end = begin
            while end < len(rows) and rows[end] == rows[begin]:
                end += 1
            begins.append(begin)
            lengths.append(end - begin)
        self.make(e, 2, lengths)
        return self.make(d, 2, begins)

    def lc_stretches(self, d, a):
        ask(-2, max(d, a) < 16)
        self.columns(a)
        keys = self.keys(a)
        return self.make(d, 2, [i for i in range(len(keys)) if not in_order(keys[i - 1:i + 1]) or i == 0])

    def lc_swaps(self, a):
        ask(-2, a < 16)
        self.columns(a)
        keys = self.keys(a)
        return [0, sum(1 for i, key in enumerate(keys) for other in keys[i + 1:] if key > other)]

    def lc_alike(self, a, b):
        ask(-2, max(a, b) < 16)
        kinds, [one, other] = self.columns(a, b)
        ask(-4, kinds[0] == kinds[1])
        return [int(all(one.count(bits) == other.count(bits) for bits in one + other))]

    def lc_parts(self, d, e, a, s):
        ask(-2, max(d, e, a, s) < 16 and d != e)
        kinds, [rows, bounds] = self.columns(a, s)
        ask(-4, kinds[0] == kinds[1])
        ask(-5, in_order(self.keys(s)))
        ask(-1, len(bounds) < 65536)
        parts = [sum(1 for bound in self.keys(s) if not bound > key) for key in self.keys(a)]
        numbers = range(len(bounds) + 1)
        begins = [sum(1 for part in parts if part < number) for number in numbers]
        self.make(e, 2, begins)
        return self.make(d, 2, [i for number in numbers for i in range(len(rows)) if parts[i] == number])

    def lc_shares(self, d, a, k):
        ask(-2, max(d, a) < 16 and 1 <= k <= 4096)
        [kind], [rows] = self.columns(a)
        ask(-5, len(rows) > 0)
        order = places(self.keys(a))
        return self.make(d, kind, [rows[order[(i + 1) * len(rows) // k]] for i in range(k - 1)])

    def folded(self, kind, rows, op):
        keys = [stands_for(kind, bits) for bits in rows]
        if op == 1:
            return sum(rows) % 2 ** WIDTHS[kind]
        if op in (2, 3):
            return rows[places(keys)[0 if op == 2 else -1]]
        if op in (4, 5, 6):
            answer = 0
            for bit in range(WIDTHS[kind]):
                ones = sum(1 for bits in rows if bits >> bit & 1)
                answer += 2**bit * int((ones == len(rows), ones > 0, ones % 2 == 1)[op - 4])
            return answer
        return {0: len(rows), 7: rows[0], 8: rows[-1]}[op]

    def op_fits(self, kind, op):
        return op == 0 or (kind < 8 if op in (1, 4, 5, 6) else kind != 10)

    def lc_fold(self, d, g, n, a, op):
        ask(-2, max(d, g, a) < 16 and n <= 65536 and op < 9)
        kinds, [groups, rows] = self.columns(g, a)
        ask(-4, kinds[0] == 2 and self.op_fits(kinds[1], op))
        ask(-5, len(groups) == len(rows) and all(group < n for group in groups))
        made = []
        for number in range(n):
            own = [rows[i] for i in range(len(rows)) if groups[i] == number]
            made.append(self.folded(kinds[1], own, op) if own else 0)
        return self.make(d, 2 if op == 0 else kinds[1], made)

    def lc_running(self, d, g, a, op):
        ask(-2, max(d, g, a) < 16 and op < 9)
        kinds, [groups, rows] = self.columns(g, a)
        ask(-4, self.op_fits(kinds[1], op))
        ask(-5, len(groups) == len(rows))
        made = []
        for i in range(len(rows)):
            own = [rows[j] for j in range(i + 1) if groups[j] == groups[i]]
            made.append(self.folded(kinds[1], own, op))
        return self.make(d, 2 if op == 0 else kinds[1], made)

    def lc_tops(self, d, g, n, a, k):
        ask(-2, max(d, g, a) < 16 and n <= 65536 and k <= 65536)
        kinds, [groups, rows] = self.columns(g, a)
        ask(-4, kinds[0] == 2)
        ask(-5, len(groups) == len(rows) and all(group < n for group in groups))
        order = places(self.keys(a))
        made = []
        for number in range(n):
            made += [row for row in order if groups[row] == number][:k]
        return self.make(d, 2, made)

    def lc_seek(self, d, a, b):
        ask(-2, max(d, a, b) < 16)
        kinds, _ = self.columns(a, b)
        ask(-4, kinds[0] == kinds[1])
        ask(-5, in_order(self.keys(a)))
        return self.make(d, 2, [sum(1 for other in self.keys(a) if other < key) for key in self.keys(b)])

    def lc_near(self, d, a, b, how):
        ask(-2, max(d, a, b) < 16 and how < 2)
        kinds, _ = self.columns(a, b)
        ask(-4, kinds[0] == kinds[1])
        ask(-5, in_order(self.keys(a)))
        made = []
        for key in self.keys(b):
            if how == 0:
                near = [i for i, other in enumerate(self.keys(a)) if not other > key][-1:]
            else:
                near = [i for i, other in enumerate(self.keys(a)) if not other < key][:1]
            made += near or [4294967295]
        return self.make(d, 2, made)

    def make_pairs(self, d, e, pairs):
        ask(-1, len(pairs) <= 65536)
        self.make(e, 2, [pair[1] for pair in pairs])
        return self.make(d, 2, [pair[0] for pair in pairs])

    def lc_join(self, d, e, a, b, how):
        ask(-2, max(d, e, a, b) < 16 and d != e and how < 4)
        kinds, [one, other] = self.columns(a, b)
        ask(-4, kinds[0] == kinds[1])
        pairs = []
        for i, bits in enumerate(one):
            own = [(i, j) for j in range(len(other)) if other[j] == bits]
            alone = [] if own else [(i, 4294967295)]
            pairs += [own, own + alone, own[:1], alone][how]
        return self.make_pairs(d, e, pairs)

    def lc_band(self, d, e, a, b, w):
        ask(-2, max(d, e, a, b) < 16 and d != e)
        kinds, _ = self.columns(a, b)
        ask(-4, kinds[0] == kinds[1] and kinds[0] < 8)
        one, other = self.keys(a), self.keys(b)
        return self.make_pairs(
            d, e, [(i, j) for i in range(len(one)) for j in range(len(other)) if abs(one[i] - other[j]) <= w]
        )

    def lc_spans(self, d, e, lo, hi, b):
        ask(-2, max(d, e, lo, hi, b) < 16 and d != e)
        kinds, [lows, highs, _] = self.columns(lo, hi, b)
        ask(-4, kinds[0] == kinds[1] == kinds[2])
        ask(-5, len(lows) == len(highs))
        pairs = []
        for i, (low, high) in enumerate(zip(self.keys(lo), self.keys(hi))):
            pairs += [(i, j) for j, key in enumerate(self.keys(b)) if not key < low and not key > high]
        return self.make_pairs(d, e, pairs)

    def lc_sets(self, d, a, b, op):
        ask(-2, max(d, a, b) < 16 and op < 4)
        kinds, [one, other] = self.columns(a, b)
        ask(-4, kinds[0] == kinds[1])
        for keys in (self.keys(a), self.keys(b)):
            ask(-5, all(keys[i] < keys[i + 1] for i in range(len(keys) - 1)))
        rows = one + [bits for bits in other if bits not in one]
        rows = [rows[i] for i in places([stands_for(kinds[0], bits) for bits in rows])]
        made = []
        for bits in rows:
            in_one, in_other = bits in one, bits in other
            if (True, in_one and in_other, not in_other, in_one != in_other)[op]:
                made.append(bits)
        ask(-1, len(made) <= 65536)
        return self.make(d, kinds[0], made)
