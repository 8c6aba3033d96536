"""Points 15 to 18: lc_many to lc_alike."""

import unittest

from helper import ALL64, IN_ORDER, KINDS, MOST, TOP, Mixer
from helper import check_made, check_refused, mixed_up, run


def mixed_column(kind, how_many, seed):
    """Rows of the kind's edges in no order, and each row's place among these edges."""
    rows = mixed_up(kind, how_many, Mixer(seed))
    return rows, [IN_ORDER[kind].index(row) for row in rows]


def ordered(places):
    return sorted(range(len(places)), key=lambda row: (places[row], row))


class ManyTest(unittest.TestCase):
    def test_written_out(self):
        for a, s, rows, froms in (
            ([], [], [], []),
            ([5], [0], [5], [0]),
            ([5, 5], [0], [5, 5], [0, 1]),
            ([5, 5], [0, 1], [5, 5], [0, 1]),
            ([6, 5], [0, 1], [5, 6], [1, 0]),
            ([1, 4, 2, 3], [0, 2], [1, 2, 3, 4], [0, 2, 3, 1]),
            ([1, 4, 2, 3], [0, 1, 2, 3], [1, 2, 3, 4], [0, 2, 3, 1]),
            ([2, 9, 2, 9, 1, 9], [0, 2, 4], [1, 2, 2, 9, 9, 9], [4, 0, 2, 1, 3, 5]),
        ):
            for d in range(4):
                for e in range(4):
                    if d != e:
                        columns = {1: (1, a), 2: (2, s)}
                        made = {d: (1, rows), e: (2, froms)}
                        check_made(self, columns, ("lc_many", d, e, 1, 2), made)

    def test_every_kind(self):
        for kind in KINDS:
            rows = IN_ORDER[kind]
            three = rows + rows + rows
            order = ordered([IN_ORDER[kind].index(row) for row in three])
            columns = {1: (kind, three), 2: (2, [0, len(rows), 2 * len(rows)])}
            made = {3: (kind, [three[row] for row in order]), 4: (2, order)}
            check_made(self, columns, ("lc_many", 3, 4, 1, 2), made)
            check_refused(self, columns | {2: (2, [0, len(rows)])}, ("lc_many", 3, 4, 1, 2), -5)

    def test_what_s_may_not_be(self):
        rows = [1, 2, 3, 1, 2, 3]
        for s in ([], [3], [1, 3], [0, 0, 3], [0, 3, 3], [0, 4], [0, 2], [0, 3, 6], [0, 3, TOP], [0, 3, 2], [3, 0]):
            check_refused(self, {1: (4, rows), 2: (2, s)}, ("lc_many", 3, 4, 1, 2), -5)
        for s in ([0, 3], [0, 3, 5], [0, 1, 2, 3, 4, 5]):
            made = {3: (4, [1, 1, 2, 2, 3, 3]), 4: (2, [0, 3, 1, 4, 2, 5])}
            check_made(self, {1: (4, rows), 2: (2, s)}, ("lc_many", 3, 4, 1, 2), made)
        check_refused(self, {1: (4, []), 2: (2, [0])}, ("lc_many", 3, 4, 1, 2), -5)

    def test_refused(self):
        columns = {0: (6, [5, 6]), 1: (2, [0]), 2: (0, [0]), 3: (2, [1])}
        for call, number in (
            (("lc_many", 16, 1, 0, 1), -2),
            (("lc_many", 0, 16, 0, 1), -2),
            (("lc_many", 0, 1, 16, 1), -2),
            (("lc_many", 0, 1, 0, 16), -2),
            (("lc_many", 0, 0, 0, 1), -2),
            (("lc_many", 0, 0, 9, 2), -2),
            (("lc_many", 0, 1, 9, 2), -3),
            (("lc_many", 0, 1, 0, 9), -3),
            (("lc_many", 0, 1, 0, 2), -4),
            (("lc_many", 0, 1, 3, 0), -4),
            (("lc_many", 0, 1, 0, 3), -5),
        ):
            check_refused(self, columns, call, number)

    def test_large(self):
        calls = [("lc_count", 0, 1, MOST, 0, 257), ("lc_count", 1, 2, 1, 0, 0), ("lc_stretches", 1, 0)]
        calls += [("lc_many", 2, 3, 0, 1), ("lc_get", 2, 1, 0, MOST), ("lc_get", 3, 2, 0, MOST)]
        rows = [257 * row % MOST for row in range(MOST)]
        order = ordered(rows)
        answered = run(calls)
        self.assertEqual(answered[4], [0] + [rows[row] for row in order])
        self.assertEqual(answered[5], [0] + order)


class BestNthTest(unittest.TestCase):
    def test_every_kind(self):
        for kind in KINDS:
            rows, places = mixed_column(kind, 30, kind)
            order = ordered(places)
            for k in (0, 1, 2, 15, 29, 30):
                for d in (0, 1):
                    check_made(self, {1: (kind, rows)}, ("lc_best", d, 1, k), {d: (2, order[:k])})
            for k in range(30):
                check_made(self, {1: (kind, rows)}, ("lc_nth", 1, k), {}, [0, rows[order[k]]])
            for k in (30, 31, MOST):
                check_refused(self, {1: (kind, rows)}, ("lc_nth", 1, k), -5)
                check_refused(self, {1: (kind, rows)}, ("lc_best", 0, 1, k + 1 if k < MOST else k), -5)

    def test_few_rows(self):
        check_made(self, {1: (9, [])}, ("lc_best", 0, 1, 0), {0: (2, [])})
        check_refused(self, {1: (9, [])}, ("lc_best", 0, 1, 1), -5)
        check_refused(self, {1: (9, [])}, ("lc_nth", 1, 0), -5)
        check_made(self, {1: (9, [ALL64])}, ("lc_best", 0, 1, 1), {0: (2, [0])})
        check_made(self, {1: (9, [ALL64])}, ("lc_nth", 1, 0), {}, [0, ALL64])

    def test_refused(self):
        columns = {0: (2, [5, 6])}
        for call, number in (
            (("lc_best", 16, 0, 1), -2),
            (("lc_best", 0, 16, 1), -2),
            (("lc_best", 0, 0, MOST + 1), -2),
            (("lc_best", 0, 9, MOST + 1), -2),
            (("lc_best", 0, 9, MOST), -3),
            (("lc_best", 0, 0, MOST), -5),
            (("lc_best", 0, 0, 3), -5),
            (("lc_nth", 16, 1), -2),
            (("lc_nth", 0, MOST + 1), -2),
            (("lc_nth", 9, MOST + 1), -2),
            (("lc_nth", 9, MOST), -3),
            (("lc_nth", 0, MOST), -5),
            (("lc_nth", 0, 2), -5),
        ):
            check_refused(self, columns, call, number)

    def test_large(self):
        calls = [("lc_count", 0, 6, MOST, 9, 65537 * 3), ("lc_best", 1, 0, MOST), ("lc_get", 1, 2, 0, MOST)]
        calls += [("lc_nth", 0, 0), ("lc_nth", 0, MOST - 1), ("lc_nth", 0, MOST)]
        calls += [("lc_best", 1, 0, 5), ("lc_get", 1, 2, 0, 5)]
        numbers = [(9 + 65537 * 3 * row + 2**31) % 2**32 - 2**31 for row in range(MOST)]
        order = ordered(numbers)
        answered = run(calls)
        self.assertEqual(answered[2], [0] + order)
        self.assertEqual(answered[3:6], [[0, min(numbers) % 2**32], [0, max(numbers)], [-5]])
        self.assertEqual(answered[6:], [[5], [0] + order[:5]])


class RanksTest(unittest.TestCase):
    def test_written_out(self):
        rows = [7, 3, 7, 9, 3, 7, 0]
        for how, ranks in enumerate((
            [3, 1, 4, 6, 2, 5, 0],
            [3, 1, 3, 6, 1, 3, 0],
            [5, 2, 5, 6, 2, 5, 0],
            [2, 1, 2, 3, 1, 2, 0],
        )):
            for d in (0, 1):
                check_made(self, {1: (3, rows)}, ("lc_ranks", d, 1, how), {d: (2, ranks)})

    def test_every_kind(self):
        for kind in KINDS:
            rows, places = mixed_column(kind, 30, kind + 50)
            order = ordered(places)
            sorted_places = sorted(places)
            different = sorted(set(places))
            for how, ranks in enumerate((
                [order.index(row) for row in range(30)],
                [sorted_places.index(place) for place in places],
                [sorted_places.index(place) + places.count(place) - 1 for place in places],
                [different.index(place) for place in places],
            )):
                check_made(self, {1: (kind, rows)}, ("lc_ranks", 0, 1, how), {0: (2, ranks)})

    def test_few_rows(self):
        for how in range(4):
            check_made(self, {1: (8, [])}, ("lc_ranks", 0, 1, how), {0: (2, [])})
            check_made(self, {1: (8, [TOP])}, ("lc_ranks", 0, 1, how), {0: (2, [0])})

    def test_refused(self):
        for call, number in (
            (("lc_ranks", 16, 0, 0), -2),
            (("lc_ranks", 0, 16, 0), -2),
            (("lc_ranks", 0, 0, 4), -2),
            (("lc_ranks", 0, 9, 4), -2),
            (("lc_ranks", 0, 9, 3), -3),
        ):
            check_refused(self, {0: (2, [5, 6])}, call, number)

    def test_large(self):
        calls = [("lc_count", 0, 0, MOST, 0, 3)]
        for how in range(4):
            calls += [("lc_ranks", 1, 0, how), ("lc_get", 1, 2, 0, MOST)]
        rows = [3 * row % 256 for row in range(MOST)]
        answered = run(calls)
        self.assertEqual(answered[2], [0] + [256 * rows[row] + row // 256 for row in range(MOST)])
        self.assertEqual(answered[4], [0] + [256 * row for row in rows])
        self.assertEqual(answered[6], [0] + [256 * row + 255 for row in rows])
        self.assertEqual(answered[8], [0] + rows)


class ClassesTest(unittest.TestCase):
    def test_every_kind(self):
        for kind in KINDS:
            rows, places = mixed_column(kind, 30, kind + 100)
            different = sorted(set(places))
            for d, e in ((0, 2), (2, 0), (1, 0), (0, 1)):
                made = {
                    d: (2, [different.index(place) for place in places]),
                    e: (kind, [IN_ORDER[kind][place] for place in different]),
                }
                check_made(self, {1: (kind, rows)}, ("lc_classes", d, e, 1), made)

    def test_few_rows(self):
        check_made(self, {1: (8, [])}, ("lc_classes", 0, 2, 1), {0: (2, []), 2: (8, [])})
        check_made(self, {1: (8, [TOP])}, ("lc_classes", 0, 2, 1), {0: (2, [0]), 2: (8, [TOP])})
        made = {0: (2, [0, 0, 0]), 2: (10, [1])}
        check_made(self, {1: (10, [1, 1, 1])}, ("lc_classes", 0, 2, 1), made)

    def test_refused(self):
        for call, number in (
            (("lc_classes", 16, 1, 0), -2),
            (("lc_classes", 0, 16, 0), -2),
            (("lc_classes", 0, 1, 16), -2),
            (("lc_classes", 1, 1, 0), -2),
            (("lc_classes", 1, 1, 9), -2),
            (("lc_classes", 0, 1, 9), -3),
        ):
            check_refused(self, {0: (2, [5, 6])}, call, number)

    def test_large(self):
        calls = [("lc_count", 0, 5, MOST, 0, 12345), ("lc_classes", 1, 2, 0), ("lc_get", 1, 2, 0, MOST)]
        calls += [("lc_get", 2, 5, 0, MOST)]
        answered = run(calls)
        numbers = [(12345 * row + 32768) % MOST for row in range(MOST)]
        self.assertEqual(answered[2], [0] + numbers)
        self.assertEqual(answered[3], [0] + list(range(32768, 65536)) + list(range(32768)))


class EarlierTest(unittest.TestCase):
    def test_every_kind(self):
        for kind in KINDS:
            rows, _ = mixed_column(kind, 30, kind + 150)
            counts = [rows[:row].count(rows[row]) for row in range(30)]
            for d in (0, 1):
                check_made(self, {1: (kind, rows)}, ("lc_earlier", d, 1), {d: (2, counts)})

    def test_written_out(self):
        check_made(self, {1: (8, [])}, ("lc_earlier", 0, 1), {0: (2, [])})
        check_made(self, {1: (8, [7])}, ("lc_earlier", 0, 1), {0: (2, [0])})
        rows = [0, 0x80000000, 0, 0x7FC00000, 0x7FC00001, 0x7FC00000, 0x80000000, 0]
        check_made(self, {1: (8, rows)}, ("lc_earlier", 0, 1), {0: (2, [0, 0, 1, 0, 0, 1, 1, 2])})

    def test_refused(self):
        check_refused(self, {0: (2, [5])}, ("lc_earlier", 16, 0), -2)
        check_refused(self, {0: (2, [5])}, ("lc_earlier", 0, 16), -2)
        check_refused(self, {0: (2, [5])}, ("lc_earlier", 16, 9), -2)
        check_refused(self, {0: (2, [5])}, ("lc_earlier", 0, 9), -3)

    def test_large(self):
        calls = [("lc_fill", 0, 9, MOST, 5), ("lc_earlier", 0, 0), ("lc_get", 0, 2, 0, MOST)]
        self.assertEqual(run(calls)[2], [0] + list(range(MOST)))


class RunsTest(unittest.TestCase):
    def test_written_out(self):
        for rows, begins, lengths in (
            ([], [], []),
            ([4], [0], [1]),
            ([4, 4], [0], [2]),
            ([4, 5], [0, 1], [1, 1]),
            ([4, 4, 5, 4, 4, 4], [0, 2, 3], [2, 1, 3]),
            ([5, 4, 4], [0, 1], [1, 2]),
        ):
            for d, e in ((0, 2), (2, 0), (0, 1), (1, 0)):
                columns = {1: (1, rows)}
                check_made(self, columns, ("lc_runs", d, e, 1), {d: (2, begins), e: (2, lengths)})

    def test_every_kind(self):
        for kind in KINDS:
            rows = [row for row in IN_ORDER[kind] for _ in "abc"]
            begins = list(range(0, len(rows), 3))
            made = {0: (2, begins), 2: (2, [3] * len(begins))}
            check_made(self, {1: (kind, rows)}, ("lc_runs", 0, 2, 1), made)

    def test_refused(self):
        for call, number in (
            (("lc_runs", 16, 1, 0), -2),
            (("lc_runs", 0, 16, 0), -2),
            (("lc_runs", 0, 1, 16), -2),
            (("lc_runs", 1, 1, 0), -2),
            (("lc_runs", 1, 1, 9), -2),
            (("lc_runs", 0, 1, 9), -3),
        ):
            check_refused(self, {0: (2, [5, 6])}, call, number)

    def test_large(self):
        calls = [("lc_fill", 0, 9, MOST, 5), ("lc_runs", 1, 2, 0), ("lc_get", 1, 2, 0, 1), ("lc_get", 2, 2, 0, 1)]
        calls += [("lc_count", 0, 3, MOST, 5, 1), ("lc_runs", 1, 2, 0), ("lc_get", 1, 2, 0, MOST)]
        calls += [("lc_get", 2, 2, 0, MOST)]
        answered = run(calls)
        self.assertEqual(answered[1:4], [[1], [0, 0], [0, MOST]])
        self.assertEqual(answered[6:], [[0] + list(range(MOST)), [0] + [1] * MOST])


class StretchesTest(unittest.TestCase):
    def test_written_out(self):
        for rows, begins in (
            ([], []),
            ([4], [0]),
            ([4, 4, 4], [0]),
            ([4, 5, 5, 9], [0]),
            ([4, 3, 2], [0, 1, 2]),
            ([4, 5, 3, 3, 7, 6], [0, 2, 5]),
        ):
            for d in (0, 1):
                check_made(self, {1: (0, rows)}, ("lc_stretches", d, 1), {d: (2, begins)})

    def test_every_kind(self):
        for kind in KINDS:
            rows = IN_ORDER[kind]
            n = len(rows)
            check_made(self, {1: (kind, rows + rows)}, ("lc_stretches", 0, 1), {0: (2, [0, n])})
            check_made(self, {1: (kind, rows[::-1])}, ("lc_stretches", 0, 1), {0: (2, list(range(n)))})

    def test_refused(self):
        check_refused(self, {0: (2, [5])}, ("lc_stretches", 16, 0), -2)
        check_refused(self, {0: (2, [5])}, ("lc_stretches", 0, 16), -2)
        check_refused(self, {0: (2, [5])}, ("lc_stretches", 16, 9), -2)
        check_refused(self, {0: (2, [5])}, ("lc_stretches", 0, 9), -3)

    def test_large(self):
        calls = [("lc_count", 0, 4, MOST, 0, 1), ("lc_stretches", 1, 0), ("lc_get", 1, 2, 0, 257)]
        calls += [("lc_count", 0, 2, MOST, TOP, TOP), ("lc_stretches", 1, 0)]
        answered = run(calls)
        self.assertEqual(answered[2], [0, 0] + list(range(128, MOST, 256)))
        self.assertEqual(answered[4], [MOST])


class SwapsTest(unittest.TestCase):
    def test_written_out(self):
        for rows, swaps in (
            ([], 0),
            ([4], 0),
            ([4, 4], 0),
            ([4, 5], 0),
            ([5, 4], 1),
            ([3, 2, 1], 3),
            ([3, 3, 1, 1], 4),
            ([2, 1, 2, 1], 3),
            ([9, 1, 8, 2, 7, 3], 9),
        ):
            check_made(self, {1: (0, rows)}, ("lc_swaps", 1), {}, [0, swaps])

    def test_every_kind(self):
        for kind in KINDS:
            rows, places = mixed_column(kind, 40, kind + 200)
            swaps = sum(1 for i in range(40) for j in range(i, 40) if places[i] > places[j])
            check_made(self, {1: (kind, rows)}, ("lc_swaps", 1), {}, [0, swaps])
            n = len(IN_ORDER[kind])
            check_made(self, {1: (kind, IN_ORDER[kind])}, ("lc_swaps", 1), {}, [0, 0])
            check_made(self, {1: (kind, IN_ORDER[kind][::-1])}, ("lc_swaps", 1), {}, [0, n * (n - 1) // 2])

    def test_refused(self):
        check_refused(self, {0: (2, [5])}, ("lc_swaps", 16), -2)
        check_refused(self, {0: (2, [5])}, ("lc_swaps", 9), -3)

    def test_large(self):
        calls = [("lc_count", 0, 2, MOST, TOP, TOP), ("lc_swaps", 0), ("lc_fill", 0, 2, MOST, 7), ("lc_swaps", 0)]
        calls += [("lc_count", 0, 0, MOST, 255, 255), ("lc_swaps", 0)]
        # 256 times 255 down to 0: each such block against itself, and against each later one.
        within = 256 * 255 // 2
        swaps = 256 * within + 256 * 255 // 2 * within
        self.assertEqual(run(calls)[1::2], [[0, MOST * (MOST - 1) // 2], [0, 0], [0, swaps]])


class AlikeTest(unittest.TestCase):
    def test_written_out(self):
        for a, b, alike in (
            ([], [], 1),
            ([], [4], 0),
            ([4], [4], 1),
            ([4], [5], 0),
            ([4], [4, 4], 0),
            ([4, 5, 4], [5, 4, 4], 1),
            ([4, 5, 4], [5, 4, 5], 0),
            ([1, 2, 3], [3, 2, 1], 1),
            ([1, 4], [2, 3], 0),
        ):
            check_made(self, {1: (7, a), 2: (7, b)}, ("lc_alike", 1, 2), {}, [alike])

    def test_every_kind(self):
        for kind in KINDS:
            rows, _ = mixed_column(kind, 30, kind + 250)
            check_made(self, {1: (kind, rows), 2: (kind, rows[::-1])}, ("lc_alike", 1, 2), {}, [1])
            other = [rows[0]] + rows[:-1]
            alike = int(rows[0] == rows[-1])
            check_made(self, {1: (kind, rows), 2: (kind, other)}, ("lc_alike", 1, 2), {}, [alike])
        zeros = {1: (8, [0]), 2: (8, [0x80000000])}
        check_made(self, zeros, ("lc_alike", 1, 2), {}, [0])
        check_made(self, zeros, ("lc_alike", 1, 1), {}, [1])

    def test_refused(self):
        for call, number in (
            (("lc_alike", 16, 0), -2),
            (("lc_alike", 0, 16), -2),
            (("lc_alike", 9, 16), -2),
            (("lc_alike", 0, 9), -3),
            (("lc_alike", 9, 1), -3),
            (("lc_alike", 0, 1), -4),
        ):
            check_refused(self, {0: (2, [5]), 1: (6, [5])}, call, number)

    def test_large(self):
        calls = [("lc_count", 0, 1, MOST, 0, 1), ("lc_count", 1, 1, MOST, 7, 12345), ("lc_alike", 0, 1)]
        calls += [("lc_count", 1, 1, MOST, 7, 12346), ("lc_alike", 0, 1)]
        self.assertEqual(run(calls)[2::2], [[1], [0]])


if __name__ == "__main__":
    unittest.main()
