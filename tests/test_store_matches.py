"""Points 22 to 25: lc_seek, lc_near, lc_join, lc_band, lc_spans, lc_sets."""

import unittest

from helper import ALL64, IN_ORDER, KINDS, MOST, TOP, WHOLE, Mixer
from helper import check_made, check_refused, mixed_up, run

SLOT_PAIRS = [(d, e) for d in range(4) for e in range(4) if d != e]


class SeekTest(unittest.TestCase):
    def test_written_out(self):
        for a, b, below, near, next_one in (
            ([], [], [], [], []),
            ([], [5, 6], [0, 0], [TOP, TOP], [TOP, TOP]),
            ([5], [], [], [], []),
            ([5], [4, 5, 6], [0, 0, 1], [TOP, 0, 0], [0, 0, TOP]),
            ([5, 5, 5], [4, 5, 6], [0, 0, 3], [TOP, 2, 2], [0, 0, TOP]),
            ([2, 4, 4, 8], [9, 0, 4, 3, 8, 2], [4, 0, 1, 1, 3, 0], [3, TOP, 2, 0, 3, 0], [TOP, 0, 1, 1, 3, 0]),
        ):
            columns = {1: (1, a), 2: (1, b)}
            for d in range(3):
                check_made(self, columns, ("lc_seek", d, 1, 2), {d: (2, below)})
                check_made(self, columns, ("lc_near", d, 1, 2, 0), {d: (2, near)})
                check_made(self, columns, ("lc_near", d, 1, 2, 1), {d: (2, next_one)})

    def test_every_kind(self):
        for kind in KINDS:
            rows = IN_ORDER[kind]
            n = len(rows)
            b = mixed_up(kind, 30, Mixer(kind))
            places = [rows.index(row) for row in b]
            columns = {1: (kind, rows), 2: (kind, b)}
            check_made(self, columns, ("lc_seek", 0, 1, 2), {0: (2, places)})
            check_made(self, columns, ("lc_near", 0, 1, 2, 0), {0: (2, places)})
            check_made(self, columns, ("lc_near", 0, 1, 2, 1), {0: (2, places)})
            columns = {1: (kind, rows[1:-1]), 2: (kind, rows)}
            check_made(self, columns, ("lc_seek", 0, 1, 2), {0: (2, [0, *range(n - 1)])})
            upto = [TOP, *range(n - 2), n - 3] if n > 2 else [TOP, TOP]
            check_made(self, columns, ("lc_near", 0, 1, 2, 0), {0: (2, upto)})
            behind = [0, *range(n - 2), TOP] if n > 2 else [TOP, TOP]
            check_made(self, columns, ("lc_near", 0, 1, 2, 1), {0: (2, behind)})
            turned = {1: (kind, rows[::-1]), 2: (kind, b)}
            check_refused(self, turned, ("lc_seek", 0, 1, 2), -5)
            check_refused(self, turned, ("lc_near", 0, 1, 2, 0), -5)
            check_refused(self, turned, ("lc_near", 0, 1, 2, 1), -5)

    def test_one_slot_as_both(self):
        check_made(self, {1: (1, [3, 3, 4])}, ("lc_seek", 1, 1, 1), {1: (2, [0, 0, 2])})

    def test_refused(self):
        columns = {0: (2, [5, 6]), 1: (2, [6, 5]), 2: (6, [6, 5])}
        for call, number in (
            (("lc_seek", 16, 0, 0), -2),
            (("lc_seek", 0, 16, 0), -2),
            (("lc_seek", 0, 0, 16), -2),
            (("lc_seek", 16, 9, 2), -2),
            (("lc_seek", 0, 9, 2), -3),
            (("lc_seek", 0, 2, 9), -3),
            (("lc_seek", 0, 0, 2), -4),
            (("lc_seek", 0, 2, 0), -4),
            (("lc_seek", 0, 1, 0), -5),
            (("lc_near", 16, 0, 0, 0), -2),
            (("lc_near", 0, 16, 0, 0), -2),
            (("lc_near", 0, 0, 16, 0), -2),
            (("lc_near", 0, 0, 0, 2), -2),
            (("lc_near", 0, 9, 2, 2), -2),
            (("lc_near", 0, 9, 2, 1), -3),
            (("lc_near", 0, 2, 9, 1), -3),
            (("lc_near", 0, 0, 2, 1), -4),
            (("lc_near", 0, 2, 0, 0), -4),
            (("lc_near", 0, 1, 0, 0), -5),
        ):
            check_refused(self, columns, call, number)

    def test_large(self):
        calls = [("lc_count", 0, 2, MOST, 1, 2), ("lc_count", 1, 2, MOST, 0, 40503 * 4), ("lc_seek", 2, 0, 1)]
        calls += [("lc_get", 2, 2, 0, MOST)]
        for how in (0, 1):
            calls += [("lc_near", 2, 0, 1, how), ("lc_get", 2, 2, 0, MOST)]
        answered = run(calls)
        b = [40503 * 4 * row % 2**32 for row in range(MOST)]
        below = [min(row // 2, MOST) for row in b]
        self.assertEqual(answered[3], [0] + below)
        self.assertEqual(answered[5], [0] + [count - 1 if count else TOP for count in below])
        self.assertEqual(answered[7], [0] + [count if count < MOST else TOP for count in below])


class JoinTest(unittest.TestCase):
    def test_written_out(self):
        columns = {1: (1, [5, 3, 5, 9]), 2: (1, [9, 5, 7, 5])}
        for how, pairs in enumerate((
            [(0, 1), (0, 3), (2, 1), (2, 3), (3, 0)],
            [(0, 1), (0, 3), (1, TOP), (2, 1), (2, 3), (3, 0)],
            [(0, 1), (2, 1), (3, 0)],
            [(1, TOP)],
        )):
            for d, e in SLOT_PAIRS:
                made = {d: (2, [i for i, _ in pairs]), e: (2, [j for _, j in pairs])}
                check_made(self, columns, ("lc_join", d, e, 1, 2, how), made)

    def test_every_kind(self):
        for kind in KINDS:
            a = mixed_up(kind, 12, Mixer(kind))
            b = mixed_up(kind, 9, Mixer(kind + 20))
            all_pairs = [(i, j) for i in range(12) for j in range(9) if a[i] == b[j]]
            alone = [(i, TOP) for i in range(12) if a[i] not in b]
            first = [(i, b.index(a[i])) for i in range(12) if a[i] in b]
            for how, pairs in enumerate((all_pairs, sorted(all_pairs + alone), first, alone)):
                made = {0: (2, [i for i, _ in pairs]), 3: (2, [j for _, j in pairs])}
                check_made(self, {1: (kind, a), 2: (kind, b)}, ("lc_join", 0, 3, 1, 2, how), made)

    def test_zeros_are_two_values(self):
        columns = {1: (9, [0, 2**63, 0x7FF8000000000000]), 2: (9, [2**63, 0x7FF8000000000000, 0x7FF8000000000001])}
        check_made(self, columns, ("lc_join", 0, 3, 1, 2, 0), {0: (2, [1, 2]), 3: (2, [0, 1])})

    def test_few_rows(self):
        for how, pairs in enumerate(([], [(0, TOP), (1, TOP)], [], [(0, TOP), (1, TOP)])):
            made = {0: (2, [i for i, _ in pairs]), 3: (2, [j for _, j in pairs])}
            check_made(self, {1: (0, [4, 5]), 2: (0, [])}, ("lc_join", 0, 3, 1, 2, how), made)
            nothing = {0: (2, []), 3: (2, [])}
            check_made(self, {1: (0, []), 2: (0, [4, 5])}, ("lc_join", 0, 3, 1, 2, how), nothing)
            check_made(self, {1: (0, [])}, ("lc_join", 0, 3, 1, 1, how), nothing)

    def test_refused(self):
        columns = {0: (2, [5, 6]), 1: (6, [6, 5])}
        for call, number in (
            (("lc_join", 16, 1, 0, 0, 0), -2),
            (("lc_join", 0, 16, 0, 0, 0), -2),
            (("lc_join", 0, 1, 16, 0, 0), -2),
            (("lc_join", 0, 1, 0, 16, 0), -2),
            (("lc_join", 0, 1, 0, 0, 4), -2),
            (("lc_join", 1, 1, 0, 0, 0), -2),
            (("lc_join", 1, 1, 9, 1, 0), -2),
            (("lc_join", 0, 1, 9, 1, 3), -3),
            (("lc_join", 0, 1, 1, 9, 3), -3),
            (("lc_join", 0, 1, 0, 1, 3), -4),
        ):
            check_refused(self, columns, call, number)

    def test_too_many_rows(self):
        calls = [("lc_fill", 0, 3, 256, 7), ("lc_fill", 1, 3, 257, 7), ("lc_put", 2, 3, [8]), ("lc_fill", 9, 7, 256, 7)]
        calls += [("lc_join", 3, 4, 0, 0, how) for how in range(4)]
        calls += [("lc_look", 3), ("lc_drop", 3), ("lc_drop", 4)]
        # 256 times 256 pairs and one row alone: just too many for how 1.
        calls += [("lc_slice", 5, 0, 2, 0, 257)] + [("lc_join", 3, 4, 5, 0, how) for how in range(4)]
        calls += [("lc_join", 3, 4, 0, 1, 0), ("lc_join", 3, 4, 1, 0, 1)]
        calls += [("lc_join", 3, 4, 0, 9, 0), ("lc_join", 3, 3, 0, 1, 0)]
        calls += [("lc_look", 3), ("lc_look", 4)]
        expected = [[MOST], [MOST], [256], [0], [0, 2, 0], [0], [0]]
        expected += [[257], [MOST], [-1], [256], [1], [-1], [-1], [-4], [-2], [0, 2, 1], [0, 2, 1]]
        self.assertEqual(run(calls)[4:], expected)

    def test_large(self):
        calls = [("lc_count", 0, 1, MOST, 0, 12345), ("lc_count", 1, 1, MOST, 0, 1)]
        for how in range(4):
            calls += [("lc_join", 2, 3, 0, 1, how)]
        calls += [("lc_join", 2, 3, 0, 1, 0), ("lc_get", 2, 2, 0, MOST), ("lc_get", 3, 2, 0, MOST)]
        calls += [("lc_fill", 0, 3, MOST, 1), ("lc_join", 2, 3, 0, 0, 0), ("lc_join", 2, 3, 0, 0, 2)]
        calls += [("lc_get", 3, 2, 0, MOST)]
        answered = run(calls)
        self.assertEqual(answered[2:6], [[MOST], [MOST], [MOST], [0]])
        self.assertEqual(answered[7], [0] + list(range(MOST)))
        self.assertEqual(answered[8], [0] + [12345 * row % MOST for row in range(MOST)])
        self.assertEqual(answered[10:], [[-1], [MOST], [0] + [0] * MOST])


class BandTest(unittest.TestCase):
    def test_written_out(self):
        columns = {1: (4, [5, 255, 128]), 2: (4, [127, 0, 6, 254, 5, 129])}
        for w, pairs in (
            (0, [(0, 4)]),
            (1, [(0, 2), (0, 4), (1, 1), (1, 3), (2, 5)]),
            (6, [(0, 1), (0, 2), (0, 4), (1, 1), (1, 3), (1, 4), (2, 5)]),
            (7, [(0, 1), (0, 2), (0, 3), (0, 4), (1, 1), (1, 2), (1, 3), (1, 4), (2, 5)]),
            (254, [(i, j) for i in range(3) for j in range(6) if (i, j) != (2, 0)]),
            (255, [(i, j) for i in range(3) for j in range(6)]),
            (ALL64, [(i, j) for i in range(3) for j in range(6)]),
        ):
            for d, e in SLOT_PAIRS:
                made = {d: (2, [i for i, _ in pairs]), e: (2, [j for _, j in pairs])}
                check_made(self, columns, ("lc_band", d, e, 1, 2, w), made)

    def test_every_kind(self):
        for kind in WHOLE:
            rows = IN_ORDER[kind]
            signed = rows[0] != 0
            span = max(rows) - min(rows) if not signed else 2 * rows[0] - 1
            numbers = [row - 2 * rows[0] if signed and row >= rows[0] else row for row in rows]
            n = len(rows)
            for w in (0, 1, 2, 126, 127, 128, 255, span - 1, span, ALL64):
                pairs = [(i, j) for i in range(n) for j in range(n) if abs(numbers[i] - numbers[j]) <= w]
                made = {0: (2, [i for i, _ in pairs]), 3: (2, [j for _, j in pairs])}
                check_made(self, {1: (kind, rows)}, ("lc_band", 0, 3, 1, 1, w), made)

    def test_few_rows(self):
        nothing = {0: (2, []), 3: (2, [])}
        for a, b in (([], []), ([4], []), ([], [4]), ([4], [6])):
            check_made(self, {1: (0, a), 2: (0, b)}, ("lc_band", 0, 3, 1, 2, 1), nothing)

    def test_refused(self):
        columns = {0: (2, [5, 6]), 1: (6, [6, 5]), 2: (8, [5]), 3: (9, [5]), 4: (10, [1])}
        for call, number in (
            (("lc_band", 16, 1, 0, 0, 0), -2),
            (("lc_band", 0, 16, 0, 0, 0), -2),
            (("lc_band", 0, 1, 16, 0, 0), -2),
            (("lc_band", 0, 1, 0, 16, 0), -2),
            (("lc_band", 1, 1, 0, 0, 0), -2),
            (("lc_band", 1, 1, 9, 2, 0), -2),
            (("lc_band", 0, 1, 9, 2, 0), -3),
            (("lc_band", 0, 1, 2, 9, 0), -3),
            (("lc_band", 0, 1, 0, 1, 0), -4),
            (("lc_band", 0, 1, 2, 2, 0), -4),
            (("lc_band", 0, 1, 3, 3, 0), -4),
            (("lc_band", 0, 1, 4, 4, 0), -4),
        ):
            check_refused(self, columns, call, number)

    def test_too_many_rows(self):
        calls = [("lc_count", 0, 1, 256, 0, 1), ("lc_count", 1, 1, 257, 0, 1), ("lc_band", 3, 4, 0, 0, 254)]
        calls += [("lc_band", 3, 4, 0, 0, 255), ("lc_drop", 3), ("lc_drop", 4), ("lc_band", 3, 4, 0, 1, 256)]
        calls += [("lc_band", 3, 4, 1, 0, ALL64), ("lc_look", 3), ("lc_look", 4), ("lc_count", 5, 1, MOST, 0, 1)]
        calls += [("lc_band", 3, 4, 5, 5, ALL64), ("lc_band", 3, 4, 5, 5, 1), ("lc_band", 3, 4, 5, 5, 0)]
        expected = [[MOST - 2], [MOST], [0], [0], [-1], [-1], [-3], [-3], [MOST], [-1], [-1], [MOST]]
        self.assertEqual(run(calls)[2:], expected)

    def test_large(self):
        calls = [("lc_count", 0, 3, MOST, 0, 3), ("lc_count", 1, 3, MOST, 1, 3), ("lc_rearrange", 1, 1, 0)]
        calls += [("lc_band", 2, 3, 0, 1, 1), ("lc_get", 2, 2, 0, MOST), ("lc_get", 3, 2, 0, MOST)]
        answered = run(calls)
        self.assertEqual(answered[3:5], [[MOST], [0] + list(range(MOST))])
        self.assertEqual(answered[5], [0] + list(range(MOST - 1, -1, -1)))


class SpansTest(unittest.TestCase):
    def test_written_out(self):
        columns = {1: (4, [0, 250, 5, 9]), 2: (4, [9, 3, 5, 8]), 5: (4, [5, 255, 9, 128, 0])}
        pairs = [(0, 0), (0, 2), (0, 4), (1, 1), (1, 4), (2, 0)]
        for d, e in SLOT_PAIRS:
            made = {d: (2, [i for i, _ in pairs]), e: (2, [j for _, j in pairs])}
            check_made(self, columns, ("lc_spans", d, e, 1, 2, 5), made)
        made = {5: (2, [i for i, _ in pairs]), 1: (2, [j for _, j in pairs])}
        check_made(self, columns, ("lc_spans", 5, 1, 1, 2, 5), made)

    def test_every_kind(self):
        for kind in KINDS:
            rows = IN_ORDER[kind]
            n = len(rows)
            ends = [(i, j) for i in range(n) for j in range(n)]
            columns = {1: (kind, [rows[i] for i, _ in ends]), 2: (kind, [rows[j] for _, j in ends]), 5: (kind, rows)}
            pairs = [(place, k) for place, (i, j) in enumerate(ends) for k in range(n) if i <= k <= j]
            made = {0: (2, [i for i, _ in pairs]), 3: (2, [j for _, j in pairs])}
            check_made(self, columns, ("lc_spans", 0, 3, 1, 2, 5), made)

    def test_few_rows(self):
        nothing = {0: (2, []), 3: (2, [])}
        for lo, hi, b in (([], [], []), ([], [], [4]), ([4], [5], []), ([5], [4], [4, 5])):
            check_made(self, {1: (0, lo), 2: (0, hi), 5: (0, b)}, ("lc_spans", 0, 3, 1, 2, 5), nothing)
        check_made(self, {1: (0, [7])}, ("lc_spans", 0, 3, 1, 1, 1), {0: (2, [0]), 3: (2, [0])})

    def test_refused(self):
        columns = {0: (2, [5, 6]), 1: (6, [6, 5]), 2: (2, [5]), 3: (6, [5])}
        for call, number in (
            (("lc_spans", 16, 1, 0, 0, 0), -2),
            (("lc_spans", 0, 16, 0, 0, 0), -2),
            (("lc_spans", 0, 1, 16, 0, 0), -2),
            (("lc_spans", 0, 1, 0, 16, 0), -2),
            (("lc_spans", 0, 1, 0, 0, 16), -2),
            (("lc_spans", 1, 1, 0, 0, 0), -2),
            (("lc_spans", 1, 1, 9, 0, 1), -2),
            (("lc_spans", 0, 1, 9, 0, 1), -3),
            (("lc_spans", 0, 1, 0, 9, 1), -3),
            (("lc_spans", 0, 1, 0, 1, 9), -3),
            (("lc_spans", 0, 1, 0, 1, 0), -4),
            (("lc_spans", 0, 1, 1, 0, 0), -4),
            (("lc_spans", 0, 1, 0, 0, 1), -4),
            (("lc_spans", 0, 1, 0, 3, 0), -4),
            (("lc_spans", 0, 1, 0, 2, 0), -5),
            (("lc_spans", 0, 1, 2, 0, 0), -5),
        ):
            check_refused(self, columns, call, number)

    def test_too_many_rows(self):
        calls = [("lc_fill", 0, 8, 256, 0), ("lc_fill", 1, 8, 256, 5)]
        calls += [("lc_fill", 2, 8, 256, 3), ("lc_fill", 3, 8, 257, 3)]
        calls += [("lc_fill", 6, 8, MOST, 0), ("lc_fill", 7, 8, MOST, 9), ("lc_fill", 8, 8, 5, 3)]
        calls += [("lc_spans", 4, 5, 0, 1, 2), ("lc_drop", 4), ("lc_drop", 5), ("lc_spans", 4, 5, 0, 1, 3)]
        calls += [("lc_look", 4), ("lc_look", 5), ("lc_spans", 4, 5, 6, 7, 6), ("lc_spans", 4, 5, 7, 6, 6)]
        calls += [("lc_spans", 4, 5, 6, 8, 6), ("lc_spans", 4, 4, 6, 7, 6)]
        expected = [[MOST], [0], [0], [-1], [-3], [-3], [-1], [0], [-5], [-2]]
        self.assertEqual(run(calls)[7:], expected)

    def test_spans_without_rows_do_not_count(self):
        # 65536 pairs, and a span whose low is above its high: just not too many.
        calls = [("lc_put", 0, 0, [0] * 256 + [9]), ("lc_put", 1, 0, [9] * 256 + [0]), ("lc_fill", 2, 0, 256, 5)]
        calls += [("lc_spans", 3, 4, 0, 1, 2), ("lc_look", 4)]
        self.assertEqual(run(calls)[3:], [[MOST], [0, 2, MOST]])
        # One pair more is too many, and such a span takes nothing off.
        calls = [("lc_put", 0, 0, [0, 7, 9]), ("lc_put", 1, 0, [9, 7, 0]), ("lc_fill", 2, 0, MOST - 1, 5)]
        calls += [("lc_put", 3, 0, [7]), ("lc_slice", 2, 2, 3, 0, MOST), ("lc_spans", 4, 5, 0, 1, 2), ("lc_look", 4)]
        self.assertEqual(run(calls)[5:], [[-1], [-3]])

    def test_large(self):
        calls = [("lc_count", 0, 3, MOST, 0, 10), ("lc_count", 1, 3, MOST, 3, 10), ("lc_count", 2, 3, MOST, 2, 10)]
        calls += [("lc_rearrange", 2, 2, 0), ("lc_spans", 4, 5, 0, 1, 2)]
        calls += [("lc_get", 4, 2, 0, MOST), ("lc_get", 5, 2, 0, MOST)]
        answered = run(calls)
        self.assertEqual(answered[5], [0] + list(range(MOST)))
        self.assertEqual(answered[6], [0] + list(range(MOST - 1, -1, -1)))


class SetsTest(unittest.TestCase):
    def test_written_out(self):
        for a, b, sets in (
            ([], [], ([], [], [], [])),
            ([4], [], ([4], [], [4], [4])),
            ([], [4], ([4], [], [], [4])),
            ([4], [4], ([4], [4], [], [])),
            ([1, 3, 5, 9], [0, 3, 4, 5, 8], ([0, 1, 3, 4, 5, 8, 9], [3, 5], [1, 9], [0, 1, 4, 8, 9])),
        ):
            for op, rows in enumerate(sets):
                for d in range(3):
                    check_made(self, {1: (1, a), 2: (1, b)}, ("lc_sets", d, 1, 2, op), {d: (1, rows)})

    def test_every_kind(self):
        for kind in KINDS:
            rows = IN_ORDER[kind]
            a = rows[::2]
            b = [row for place, row in enumerate(rows) if place % 3 == 0]
            for op, made in enumerate((
                [row for row in rows if row in a or row in b],
                [row for row in rows if row in a and row in b],
                [row for row in rows if row in a and row not in b],
                [row for row in rows if (row in a) != (row in b)],
            )):
                check_made(self, {1: (kind, a), 2: (kind, b)}, ("lc_sets", 0, 1, 2, op), {0: (kind, made)})
                check_refused(self, {1: (kind, rows[::-1]), 2: (kind, b)}, ("lc_sets", 0, 1, 2, op), -5)
                check_refused(self, {1: (kind, a), 2: (kind, b + b[-1:])}, ("lc_sets", 0, 1, 2, op), -5)

    def test_refused(self):
        columns = {0: (2, [5, 6]), 1: (2, [6, 5]), 2: (6, [6, 5]), 3: (2, [5, 5])}
        for call, number in (
            (("lc_sets", 16, 0, 0, 0), -2),
            (("lc_sets", 0, 16, 0, 0), -2),
            (("lc_sets", 0, 0, 16, 0), -2),
            (("lc_sets", 0, 0, 0, 4), -2),
            (("lc_sets", 0, 9, 2, 4), -2),
            (("lc_sets", 0, 9, 2, 3), -3),
            (("lc_sets", 0, 2, 9, 3), -3),
            (("lc_sets", 0, 0, 2, 3), -4),
            (("lc_sets", 0, 2, 0, 3), -4),
            (("lc_sets", 0, 0, 1, 3), -5),
            (("lc_sets", 0, 1, 0, 3), -5),
            (("lc_sets", 0, 0, 3, 3), -5),
            (("lc_sets", 0, 3, 0, 3), -5),
        ):
            check_refused(self, columns, call, number)

    def test_too_many_rows(self):
        calls = [("lc_count", 0, 2, MOST, 0, 1), ("lc_put", 1, 2, [TOP])]
        calls += [("lc_put", 2, 2, [MOST - 1]), ("lc_put", 3, 2, [2, 1])]
        calls += [("lc_sets", 4, 0, 1, op) for op in (0, 3)] + [("lc_sets", 4, 1, 0, op) for op in (0, 3)]
        calls += [("lc_look", 4)] + [("lc_sets", 4, 0, 1, op) for op in (1, 2)]
        calls += [("lc_sets", 4, 0, 2, op) for op in range(4)] + [("lc_sets", 4, 0, 3, 0)]
        expected = [[-1], [-1], [-1], [-1], [-3], [0], [MOST], [MOST], [1], [MOST - 1], [MOST - 1], [-5]]
        self.assertEqual(run(calls)[4:], expected)

    def test_large(self):
        half = MOST // 2
        calls = [("lc_count", 0, 3, MOST, 0, 2), ("lc_count", 1, 3, half, 0, 4), ("lc_count", 2, 3, half, 1, 4)]
        calls += [("lc_sets", 4, 0, 1, op) for op in range(4)]
        calls += [("lc_get", 4, 3, 0, half), ("lc_sets", 4, 1, 2, 0), ("lc_get", 4, 3, 0, MOST)]
        answered = run(calls)
        self.assertEqual(answered[3:7], [[MOST], [half], [half], [half]])
        self.assertEqual(answered[7], [0] + list(range(2, 2 * MOST, 4)))
        self.assertEqual(answered[9], [0] + [4 * (row // 2) + row % 2 for row in range(MOST)])


if __name__ == "__main__":
    unittest.main()
