"""Points 19 to 21: lc_parts, lc_shares, lc_fold, lc_running, lc_tops."""

import unittest

from helper import ALL64, IN_ORDER, KINDS, MOST, TOP, WHOLE, WIDTHS, Mixer
from helper import check_made, check_refused, mixed_up, run


class PartsTest(unittest.TestCase):
    def test_written_out(self):
        for a, s, order, begins in (
            ([], [], [], [0]),
            ([7, 3], [], [0, 1], [0]),
            ([], [4, 5], [], [0, 0, 0]),
            ([7], [7], [0], [0, 0]),
            ([6], [7], [0], [0, 1]),
            ([9, 3, 5, 4, 5, 0], [5], [1, 3, 5, 0, 2, 4], [0, 3]),
            ([9, 3, 5, 4, 5, 0], [4, 5], [1, 5, 3, 0, 2, 4], [0, 2, 3]),
            ([9, 3, 5, 4, 5, 0], [4, 4, 9], [1, 5, 2, 3, 4, 0], [0, 2, 2, 5]),
            ([5, 5], [5, 5, 5], [0, 1], [0, 0, 0, 0]),
            ([4, 4], [5, 5, 5], [0, 1], [0, 2, 2, 2]),
        ):
            for d in range(4):
                for e in range(4):
                    if d != e:
                        columns = {1: (1, a), 2: (1, s)}
                        made = {d: (2, order), e: (2, begins)}
                        check_made(self, columns, ("lc_parts", d, e, 1, 2), made)

    def test_every_kind(self):
        for kind in KINDS:
            bounds = IN_ORDER[kind]
            rows = bounds[::-1]
            n = len(rows)
            columns = {1: (kind, rows), 2: (kind, bounds)}
            # Each value is a bound: the part before the first bound has no row.
            made = {0: (2, list(range(n - 1, -1, -1))), 3: (2, [0] + list(range(n)))}
            check_made(self, columns, ("lc_parts", 0, 3, 1, 2), made)
            check_refused(self, {1: (kind, bounds), 2: (kind, rows)}, ("lc_parts", 0, 3, 1, 2), -5)

    def test_refused(self):
        columns = {0: (2, [5, 6]), 1: (2, [6, 5]), 2: (6, [6, 5])}
        for call, number in (
            (("lc_parts", 16, 1, 0, 0), -2),
            (("lc_parts", 0, 16, 0, 0), -2),
            (("lc_parts", 0, 1, 16, 0), -2),
            (("lc_parts", 0, 1, 0, 16), -2),
            (("lc_parts", 1, 1, 0, 0), -2),
            (("lc_parts", 1, 1, 9, 2), -2),
            (("lc_parts", 0, 1, 9, 2), -3),
            (("lc_parts", 0, 1, 2, 9), -3),
            (("lc_parts", 0, 1, 0, 2), -4),
            (("lc_parts", 0, 1, 0, 1), -5),
        ):
            check_refused(self, columns, call, number)

    def test_too_many_rows(self):
        calls = [("lc_count", 0, 2, MOST, 0, 1), ("lc_put", 1, 2, [5]), ("lc_put", 2, 6, [5])]
        calls += [("lc_parts", 3, 4, 1, 0), ("lc_parts", 3, 4, 2, 0), ("lc_parts", 3, 3, 1, 0), ("lc_look", 3)]
        calls += [("lc_look", 4), ("lc_count", 0, 2, MOST - 1, 0, 1), ("lc_parts", 3, 4, 1, 0), ("lc_look", 4)]
        calls += [("lc_count", 0, 2, MOST, TOP, TOP), ("lc_parts", 3, 4, 1, 0)]
        expected = [[-1], [-4], [-2], [-3], [-3], [MOST - 1], [1], [0, 2, MOST], [MOST], [-5]]
        self.assertEqual(run(calls)[3:], expected)

    def test_large(self):
        calls = [("lc_count", 0, 1, MOST, 0, 12345), ("lc_count", 1, 1, MOST - 1, 1, 1), ("lc_parts", 2, 3, 0, 1)]
        calls += [("lc_get", 2, 2, 0, MOST), ("lc_get", 3, 2, 0, MOST)]
        rows = [12345 * row % MOST for row in range(MOST)]
        answered = run(calls)
        self.assertEqual(answered[3], [0] + sorted(range(MOST), key=rows.__getitem__))
        self.assertEqual(answered[4], [0] + list(range(MOST)))


class SharesTest(unittest.TestCase):
    def test_written_out(self):
        for rows, k, bounds in (
            ([7], 1, []),
            ([7], 2, [7]),
            ([7], 4, [7, 7, 7]),
            ([9, 1, 5, 3], 1, []),
            ([9, 1, 5, 3], 2, [5]),
            ([9, 1, 5, 3], 3, [3, 5]),
            ([9, 1, 5, 3], 4, [3, 5, 9]),
            ([9, 1, 5, 3], 5, [1, 3, 5, 9]),
            ([9, 1, 5, 3], 8, [1, 3, 3, 5, 5, 9, 9]),
            ([6, 4, 2, 0, 1, 3, 5], 3, [2, 4]),
            ([6, 4, 2, 0, 1, 3, 5], 2, [3]),
        ):
            for d in (0, 1):
                check_made(self, {1: (1, rows)}, ("lc_shares", d, 1, k), {d: (1, bounds)})

    def test_every_kind(self):
        for kind in KINDS:
            rows = IN_ORDER[kind]
            n = len(rows)
            check_made(self, {1: (kind, rows[::-1])}, ("lc_shares", 0, 1, n), {0: (kind, rows[1:])})
            check_made(self, {1: (kind, rows[::-1])}, ("lc_shares", 0, 1, 2), {0: (kind, [rows[n // 2]])})

    def test_refused(self):
        for call, number in (
            (("lc_shares", 16, 0, 1), -2),
            (("lc_shares", 0, 16, 1), -2),
            (("lc_shares", 0, 0, 0), -2),
            (("lc_shares", 0, 0, 4097), -2),
            (("lc_shares", 0, 9, 4097), -2),
            (("lc_shares", 0, 9, 0), -2),
            (("lc_shares", 0, 1, 0), -2),
            (("lc_shares", 0, 9, 4096), -3),
            (("lc_shares", 0, 1, 1), -5),
            (("lc_shares", 0, 1, 4096), -5),
        ):
            check_refused(self, {0: (2, [5, 6]), 1: (2, [])}, call, number)

    def test_large(self):
        calls = [("lc_count", 0, 1, MOST, 7, 12345), ("lc_shares", 1, 0, 4096), ("lc_get", 1, 1, 0, 4095)]
        calls += [("lc_shares", 1, 0, 1000), ("lc_get", 1, 1, 0, 999)]
        calls += [("lc_put", 0, 0, [6, 5]), ("lc_shares", 1, 0, 4096)]
        calls += [("lc_get", 1, 0, 0, 4095)]
        answered = run(calls)
        self.assertEqual(answered[2], [0] + list(range(16, MOST, 16)))
        self.assertEqual(answered[4], [0] + [(i + 1) * MOST // 1000 for i in range(999)])
        self.assertEqual(answered[7], [0] + [5] * 2047 + [6] * 2048)


class FoldTest(unittest.TestCase):
    def test_written_out(self):
        columns = {1: (2, [2, 0, 2, 4, 0, 2]), 2: (4, [100, 255, 60, 9, 3, 200])}
        for op, rows in enumerate((
            [2, 0, 3, 0, 1],
            [2, 0, 104, 0, 9],
            [255, 0, 200, 0, 9],
            [3, 0, 100, 0, 9],
            [3, 0, 0, 0, 9],
            [255, 0, 252, 0, 9],
            [252, 0, 144, 0, 9],
            [255, 0, 100, 0, 9],
            [3, 0, 200, 0, 9],
        )):
            kind = 2 if op == 0 else 4
            for d in range(3):
                check_made(self, columns, ("lc_fold", d, 1, 5, 2, op), {d: (kind, rows)})
            check_made(self, columns, ("lc_fold", 0, 1, 7, 2, op), {0: (kind, rows + [0, 0])})
            check_refused(self, columns, ("lc_fold", 0, 1, 4, 2, op), -5)
            check_refused(self, columns, ("lc_fold", 0, 1, 0, 2, op), -5)

    def test_sums_and_bits_of_whole_numbers(self):
        for kind in WHOLE:
            full = 2 ** WIDTHS[kind] - 1
            half = full // 2 + 1
            columns = {1: (2, [0, 0, 0, 1, 1]), 2: (kind, [full, full, 3, half, half])}
            for op, rows in ((1, [1, 0]), (4, [3, half]), (5, [full, half]), (6, [3, 0])):
                check_made(self, columns, ("lc_fold", 0, 1, 2, 2, op), {0: (kind, rows)})

    def test_first_and_last_of_every_kind(self):
        for kind in range(10):
            rows = IN_ORDER[kind]
            n = len(rows)
            middle = rows[n // 2]
            column = [middle, rows[-1], rows[0], middle, rows[1]]
            for op, value in ((2, rows[0]), (3, rows[-1]), (7, middle), (8, rows[1])):
                columns = {1: (2, [1, 1, 1, 1, 1]), 2: (kind, column)}
                # A group without rows is 0, whatever 0 is in the kind's order.
                check_made(self, columns, ("lc_fold", 0, 1, 3, 2, op), {0: (kind, [0, value, 0])})
                for place, row in enumerate(rows):
                    columns = {1: (2, [0, 0]), 2: (kind, [row, middle])}
                    first, last = (row, middle) if place <= n // 2 else (middle, row)
                    value = {2: first, 3: last, 7: row, 8: middle}[op]
                    check_made(self, columns, ("lc_fold", 0, 1, 1, 2, op), {0: (kind, [value])})

    def test_which_kinds_fit(self):
        for kind in KINDS:
            columns = {1: (2, [0]), 2: (kind, [1])}
            for op in range(9):
                fits = op == 0 or (kind < 8 if op in (1, 4, 5, 6) else kind < 10)
                if fits:
                    check_made(self, columns, ("lc_fold", 0, 1, 1, 2, op), {0: (2 if op == 0 else kind, [1])})
                    check_made(self, columns, ("lc_running", 0, 1, 2, op), {0: (2 if op == 0 else kind, [1])})
                else:
                    check_refused(self, columns, ("lc_fold", 0, 1, 1, 2, op), -4)
                    check_refused(self, columns, ("lc_running", 0, 1, 2, op), -4)

    def test_few_rows(self):
        for op in range(9):
            kind = 2 if op == 0 else 6
            columns = {1: (2, []), 2: (6, [])}
            for n in (0, 1, 3):
                check_made(self, columns, ("lc_fold", 0, 1, n, 2, op), {0: (kind, [0] * n)})

    def test_refused(self):
        columns = {0: (2, [0, 1]), 1: (6, [0, 1]), 2: (2, [0]), 3: (8, [0, 1]), 4: (2, [0, TOP]), 5: (10, [1, 1])}
        for call, number in (
            (("lc_fold", 16, 0, 2, 1, 1), -2),
            (("lc_fold", 0, 16, 2, 1, 1), -2),
            (("lc_fold", 0, 0, 2, 16, 1), -2),
            (("lc_fold", 0, 0, MOST + 1, 1, 1), -2),
            (("lc_fold", 0, 0, 2, 1, 9), -2),
            (("lc_fold", 0, 9, 2, 1, 9), -2),
            (("lc_fold", 0, 9, 2, 3, 1), -3),
            (("lc_fold", 0, 1, 2, 9, 1), -3),
            (("lc_fold", 0, 1, 2, 1, 1), -4),
            (("lc_fold", 0, 0, 2, 3, 1), -4),
            (("lc_fold", 0, 0, 1, 5, 8), -4),
            (("lc_fold", 0, 1, 0, 2, 0), -4),
            (("lc_fold", 0, 0, 1, 1, 1), -5),
            (("lc_fold", 0, 2, 2, 1, 1), -5),
            (("lc_fold", 0, 0, 2, 2, 1), -5),
            (("lc_fold", 0, 4, MOST, 1, 1), -5),
        ):
            check_refused(self, columns, call, number)

    def test_large(self):
        calls = [("lc_count", 0, 2, MOST, 0, 1), ("lc_count", 1, 3, MOST, ALL64, ALL64), ("lc_fill", 2, 2, MOST, 7)]
        for op in range(9):
            calls += [("lc_fold", 3, 0, MOST, 1, op), ("lc_get", 3, 2 if op == 0 else 3, 0, MOST)]
            calls += [("lc_fold", 3, 2, 9, 1, op), ("lc_get", 3, 2 if op == 0 else 3, 0, 9)]
        answered = run(calls)[3:]
        rows = [2**64 - 1 - row for row in range(MOST)]
        total = sum(rows) % 2**64
        values = (MOST, total, rows[-1], rows[0], rows[-1], ALL64, 0, rows[0], rows[-1])
        for op, value in enumerate(values):
            self.assertEqual(answered[4 * op + 1], [0] + (rows if op else [1] * MOST), op)
            self.assertEqual(answered[4 * op + 3], [0] + [0] * 7 + [value, 0], op)


class RunningTest(unittest.TestCase):
    def test_written_out(self):
        columns = {1: (10, [1, 0, 1, 1, 0, 1]), 2: (4, [100, 255, 60, 200, 3, 100])}
        for op, rows in enumerate((
            [1, 1, 2, 3, 2, 4],
            [100, 255, 160, 104, 2, 204],
            [100, 255, 60, 200, 255, 200],
            [100, 255, 100, 100, 3, 100],
            [100, 255, 36, 0, 3, 0],
            [100, 255, 124, 252, 255, 252],
            [100, 255, 88, 144, 252, 244],
            [100, 255, 100, 100, 255, 100],
            [100, 255, 60, 200, 3, 100],
        )):
            for d in range(3):
                check_made(self, columns, ("lc_running", d, 1, 2, op), {d: (2 if op == 0 else 4, rows)})

    def test_groups_of_every_kind(self):
        for kind in KINDS:
            groups = mixed_up(kind, 30, Mixer(kind))
            rows = list(range(30))
            sums = [sum(rows[j] for j in range(i + 1) if groups[j] == groups[i]) for i in rows]
            columns = {1: (kind, groups), 2: (1, rows)}
            check_made(self, columns, ("lc_running", 0, 1, 2, 1), {0: (1, sums)})
            counts = [groups[:i + 1].count(groups[i]) for i in rows]
            check_made(self, columns, ("lc_running", 0, 1, 2, 0), {0: (2, counts)})
            check_made(self, columns, ("lc_running", 0, 1, 1, 0), {0: (2, counts)})

    def test_first_and_last_of_every_kind(self):
        for kind in range(10):
            rows = IN_ORDER[kind]
            n = len(rows)
            columns = {1: (10, [1] * n), 2: (kind, rows), 3: (kind, rows[::-1])}
            for op, up, down in (
                (2, [rows[0]] * n, rows[::-1]),
                (3, rows, [rows[-1]] * n),
                (7, [rows[0]] * n, [rows[-1]] * n),
                (8, rows, rows[::-1]),
            ):
                check_made(self, columns, ("lc_running", 0, 1, 2, op), {0: (kind, up)})
                check_made(self, columns, ("lc_running", 0, 1, 3, op), {0: (kind, down)})

    def test_sums_are_the_lowest_bits(self):
        for kind in WHOLE:
            full = 2 ** WIDTHS[kind] - 1
            columns = {1: (9, [5] * 3), 2: (kind, [full] * 3)}
            check_made(self, columns, ("lc_running", 0, 1, 2, 1), {0: (kind, [full, full - 1, full - 2])})

    def test_few_rows(self):
        for op in range(9):
            check_made(self, {1: (8, []), 2: (6, [])}, ("lc_running", 0, 1, 2, op), {0: (2 if op == 0 else 6, [])})

    def test_refused(self):
        columns = {0: (2, [0, 1]), 1: (6, [0, 1]), 2: (2, [0]), 3: (8, [0, 1]), 5: (10, [1])}
        for call, number in (
            (("lc_running", 16, 0, 1, 1), -2),
            (("lc_running", 0, 16, 1, 1), -2),
            (("lc_running", 0, 0, 16, 1), -2),
            (("lc_running", 0, 0, 1, 9), -2),
            (("lc_running", 0, 9, 1, 9), -2),
            (("lc_running", 0, 9, 3, 1), -3),
            (("lc_running", 0, 2, 9, 1), -3),
            (("lc_running", 0, 0, 3, 1), -4),
            (("lc_running", 0, 2, 3, 6), -4),
            (("lc_running", 0, 0, 5, 7), -4),
            (("lc_running", 0, 2, 1, 1), -5),
            (("lc_running", 0, 0, 2, 1), -5),
            (("lc_running", 0, 0, 5, 0), -5),
        ):
            check_refused(self, columns, call, number)

    def test_large(self):
        calls = [("lc_count", 0, 0, MOST, 0, 1), ("lc_count", 1, 3, MOST, 0, 1)]
        for op in range(9):
            calls += [("lc_running", 2, 0, 1, op), ("lc_get", 2, 2 if op == 0 else 3, 0, MOST)]
        answered = run(calls)[3::2]
        self.assertEqual(answered[0], [0] + [row // 256 + 1 for row in range(MOST)])
        sums = list(range(256))
        for row in range(256, MOST):
            sums.append(sums[row - 256] + row)
        self.assertEqual(answered[1], [0] + sums)
        for op in (2, 4, 7):
            self.assertEqual(answered[op], [0] + [row % 256 for row in range(MOST)])
        for op in (3, 8):
            self.assertEqual(answered[op], [0] + list(range(MOST)))
        self.assertEqual(answered[5][-1], MOST - 1)
        self.assertEqual(answered[6][-1], 0)


class TopsTest(unittest.TestCase):
    def test_written_out(self):
        columns = {1: (2, [2, 0, 2, 3, 0, 2]), 2: (4, [100, 3, 100, 9, 255, 200])}
        for k, rows in (
            (0, []),
            (1, [4, 5, 3]),
            (2, [4, 1, 5, 0, 3]),
            (3, [4, 1, 5, 0, 2, 3]),
            (MOST, [4, 1, 5, 0, 2, 3]),
        ):
            for d in range(3):
                for n in (4, 5, MOST):
                    check_made(self, columns, ("lc_tops", d, 1, n, 2, k), {d: (2, rows)})
            check_refused(self, columns, ("lc_tops", 0, 1, 3, 2, k), -5)

    def test_every_kind(self):
        for kind in KINDS:
            rows = mixed_up(kind, 40, Mixer(kind + 9))
            groups = [row * 7 % 5 for row in range(40)]
            for k in (1, 3, 8, 9):
                tops = []
                for group in range(5):
                    own = [row for row in range(40) if groups[row] == group]
                    tops += sorted(own, key=lambda row: (IN_ORDER[kind].index(rows[row]), row))[:k]
                check_made(self, {1: (2, groups), 2: (kind, rows)}, ("lc_tops", 0, 1, 5, 2, k), {0: (2, tops)})

    def test_few_rows(self):
        for k in (0, 1):
            check_made(self, {1: (2, []), 2: (9, [])}, ("lc_tops", 0, 1, 0, 2, k), {0: (2, [])})
            check_made(self, {1: (2, []), 2: (9, [])}, ("lc_tops", 0, 1, 3, 2, k), {0: (2, [])})
            check_made(self, {1: (2, [0]), 2: (9, [5])}, ("lc_tops", 0, 1, 1, 2, k), {0: (2, [0] * k)})

    def test_refused(self):
        columns = {0: (2, [0, 1]), 1: (6, [0, 1]), 2: (2, [0]), 4: (2, [0, TOP])}
        for call, number in (
            (("lc_tops", 16, 0, 2, 1, 1), -2),
            (("lc_tops", 0, 16, 2, 1, 1), -2),
            (("lc_tops", 0, 0, 2, 16, 1), -2),
            (("lc_tops", 0, 0, MOST + 1, 1, 1), -2),
            (("lc_tops", 0, 0, 2, 1, MOST + 1), -2),
            (("lc_tops", 0, 9, 2, 1, MOST + 1), -2),
            (("lc_tops", 0, 9, 2, 1, 1), -3),
            (("lc_tops", 0, 1, 2, 9, 1), -3),
            (("lc_tops", 0, 1, 2, 1, 1), -4),
            (("lc_tops", 0, 1, 0, 2, 1), -4),
            (("lc_tops", 0, 0, 1, 1, 1), -5),
            (("lc_tops", 0, 2, 2, 1, 1), -5),
            (("lc_tops", 0, 0, 2, 2, 1), -5),
            (("lc_tops", 0, 4, MOST, 1, 1), -5),
        ):
            check_refused(self, columns, call, number)

    def test_large(self):
        calls = [("lc_count", 0, 0, MOST, 0, 1), ("lc_cast", 0, 0, 2, 0), ("lc_count", 1, 3, MOST, ALL64, ALL64)]
        calls += [("lc_tops", 2, 0, 256, 1, 3), ("lc_get", 2, 2, 0, 768), ("lc_tops", 2, 0, MOST, 1, MOST)]
        calls += [("lc_get", 2, 2, 0, MOST)]
        answered = run(calls)
        last = MOST - 256
        self.assertEqual(answered[4], [0] + [last + group - 256 * i for group in range(256) for i in range(3)])
        self.assertEqual(answered[6], [0] + [last + group - 256 * i for group in range(256) for i in range(256)])


if __name__ == "__main__":
    unittest.main()
