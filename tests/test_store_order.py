"""Points 14 and 15: lc_order, lc_sort, lc_merge."""

import unittest

from helper import ALL64, IN_ORDER, KINDS, MOST, TOP, Mixer
from helper import check_made, check_refused, mixed_up, run


def places_in(kind, rows):
    """Each row's place among the kind's edges, which are written out in order."""
    return [IN_ORDER[kind].index(row) for row in rows]


class OrderTest(unittest.TestCase):
    def test_every_kind_both_ways(self):
        mixer = Mixer(5)
        for kind in KINDS:
            rows = mixed_up(kind, 40, mixer)
            places = places_in(kind, rows)
            up = sorted(range(40), key=lambda row: (places[row], row))
            down = sorted(range(40), key=lambda row: (-places[row], row))
            for d in (0, 1):
                check_made(self, {1: (kind, rows)}, ("lc_order", d, [1]), {d: (2, up)})
                check_made(self, {1: (kind, rows)}, ("lc_order", d, [17]), {d: (2, down)})

    def test_several_columns(self):
        columns = {
            0: (0, [2, 1, 2, 1, 2, 1]),
            1: (4, [255, 0, 0, 0, 255, 255]),
            2: (10, [1, 1, 0, 0, 0, 1]),
            15: (8, [0, 0x80000000, 0, 0x80000000, 0, 0]),
        }
        for by, made in (
            ([0], [1, 3, 5, 0, 2, 4]),
            ([16], [0, 2, 4, 1, 3, 5]),
            ([0, 1], [5, 1, 3, 0, 4, 2]),
            ([0, 17], [1, 3, 5, 2, 0, 4]),
            ([16, 1], [0, 4, 2, 5, 1, 3]),
            ([16, 17], [2, 0, 4, 1, 3, 5]),
            ([0, 1, 2], [5, 3, 1, 4, 0, 2]),
            ([0, 1, 18], [5, 1, 3, 0, 4, 2]),
            ([2, 0, 1], [3, 4, 2, 5, 1, 0]),
            ([15, 2, 1, 0], [3, 1, 4, 2, 5, 0]),
            ([31, 18, 17, 16], [0, 5, 2, 4, 1, 3]),
            ([15, 15, 15, 15], [1, 3, 0, 2, 4, 5]),
            ([0, 16], [1, 3, 5, 0, 2, 4]),
            ([16, 0], [0, 2, 4, 1, 3, 5]),
            ([16, 0, 1, 0], [0, 4, 2, 5, 1, 3]),
        ):
            for d in (0, 1, 2, 15, 7):
                check_made(self, columns, ("lc_order", d, by), {d: (2, made)})

    def test_few_rows(self):
        for kind in KINDS:
            check_made(self, {1: (kind, [])}, ("lc_order", 0, [1, 17, 1]), {0: (2, [])})
            check_made(self, {1: (kind, [1])}, ("lc_order", 0, [17, 1]), {0: (2, [0])})

    def test_refused(self):
        columns = {0: (2, [5, 6]), 1: (6, [7, 8]), 2: (2, [7])}
        for call, number in (
            (("lc_order", 16, [0]), -2),
            (("lc_order", 3, []), -2),
            (("lc_order", 3, [0, 0, 0, 0, 0]), -2),
            (("lc_order", 3, [0] * 20), -2),
            (("lc_order", 3, [32]), -2),
            (("lc_order", 3, [255]), -2),
            (("lc_order", 3, [0, 1, 0, 32]), -2),
            (("lc_order", 3, [9, 2, 0, 32]), -2),
            (("lc_order", 3, [15]), -3),
            (("lc_order", 3, [31]), -3),
            (("lc_order", 3, [0, 9]), -3),
            (("lc_order", 3, [0, 2, 9]), -3),
            (("lc_order", 3, [0, 2]), -5),
            (("lc_order", 3, [2, 0, 1, 1]), -5),
            (("lc_order", 3, [0, 1, 0, 18]), -5),
        ):
            check_refused(self, columns, call, number)

    def test_the_next_call_is_read_behind_the_bytes(self):
        calls = [("lc_order", 3, []), ("lc_order", 3, [10] * 20), ("lc_open",), ("lc_look", 3)]
        self.assertEqual(run(calls), [[-2], [-2], [0], [-3]])

    def test_large(self):
        for kind, first, step in ((3, 0, 0x9E3779B97F4A7C15), (7, ALL64, 2**63 + 1), (0, 3, 77)):
            bound = 2**64 if kind else 256
            rows = [(first + i * step) % bound for i in range(MOST)]
            numbers = [row - 2**64 if kind == 7 and row >= 2**63 else row for row in rows]
            small = [i * 5 % 3 for i in range(MOST)]
            up = sorted(range(MOST), key=lambda row: (small[row], numbers[row], row))
            down = sorted(range(MOST), key=lambda row: (-numbers[row], small[row], row))
            calls = [("lc_count", 0, kind, MOST, first, step), ("lc_put", 1, 0, [0, 2, 1])]
            # The three rows again and again, as far as a column goes.
            calls += [("lc_slice", 1, 1, 1, 0, 6)]
            size = 6
            while size < MOST:
                calls.append(("lc_slice", 1, 1, 1, 0, min(2 * size, MOST)))
                size *= 2
            made = len(calls)
            calls += [("lc_order", 2, [1, 0]), ("lc_get", 2, 2, 0, MOST)]
            calls += [("lc_order", 2, [16, 1]), ("lc_get", 2, 2, 0, MOST)]
            answered = run(calls)[made:]
            self.assertEqual(answered, [[MOST], [0] + up, [MOST], [0] + down])


class SortTest(unittest.TestCase):
    def test_every_kind(self):
        mixer = Mixer(6)
        for kind in KINDS:
            rows = mixed_up(kind, 40, mixer)
            places = places_in(kind, rows)
            order = sorted(range(40), key=lambda row: (places[row], row))
            columns = {4: (kind, rows), 5: (1, list(range(40)))}
            made = {4: (kind, [rows[row] for row in order]), 5: (1, order)}
            check_made(self, columns, ("lc_sort", 4, 5), made)

    def test_what_goes_along_is_not_looked_at(self):
        columns = {4: (8, [0, 0x80000000, 0, 0x80000000]), 5: (9, [4, 3, 2, 1])}
        made = {4: (8, [0x80000000, 0x80000000, 0, 0]), 5: (9, [3, 1, 4, 2])}
        check_made(self, columns, ("lc_sort", 4, 5), made)

    def test_few_rows(self):
        check_made(self, {0: (3, []), 1: (10, [])}, ("lc_sort", 0, 1), {0: (3, []), 1: (10, [])})
        check_made(self, {0: (3, [5]), 1: (10, [1])}, ("lc_sort", 0, 1), {0: (3, [5]), 1: (10, [1])})

    def test_refused(self):
        columns = {0: (2, [6, 5]), 1: (6, [7, 8]), 2: (2, [7])}
        for call, number in (
            (("lc_sort", 16, 0), -2),
            (("lc_sort", 0, 16), -2),
            (("lc_sort", 0, 0), -2),
            (("lc_sort", 9, 9), -2),
            (("lc_sort", 2147483647, 9), -2),
            (("lc_sort", 9, 0), -3),
            (("lc_sort", 0, 9), -3),
            (("lc_sort", 0, 2), -5),
            (("lc_sort", 2, 0), -5),
        ):
            check_refused(self, columns, call, number)

    def test_large(self):
        calls = [("lc_count", 0, 4, MOST, 1, 7), ("lc_count", 1, 2, MOST, 0, 1), ("lc_sort", 0, 1)]
        calls += [("lc_get", 0, 4, 0, MOST), ("lc_get", 1, 2, 0, MOST)]
        numbers = [(1 + 7 * i + 128) % 256 - 128 for i in range(MOST)]
        order = sorted(range(MOST), key=lambda row: (numbers[row], row))
        answered = run(calls)
        self.assertEqual(answered[2], [MOST])
        self.assertEqual(answered[3], [0] + [numbers[row] % 256 for row in order])
        self.assertEqual(answered[4], [0] + order)


class MergeTest(unittest.TestCase):
    def test_written_out(self):
        for a, b, merged, froms in (
            ([], [], [], []),
            ([5], [], [5], [0]),
            ([], [5], [5], [0]),
            ([5], [5], [5, 5], [0, 1]),
            ([6], [5], [5, 6], [1, 0]),
            ([1, 3, 5], [2, 4], [1, 2, 3, 4, 5], [0, 3, 1, 4, 2]),
            ([1, 1, 2], [1, 2, 2], [1, 1, 1, 2, 2, 2], [0, 1, 3, 2, 4, 5]),
            ([7, 8, 9], [1, 2], [1, 2, 7, 8, 9], [3, 4, 0, 1, 2]),
        ):
            for d in range(4):
                for e in range(4):
                    if d != e:
                        columns = {1: (1, a), 2: (1, b)}
                        made = {d: (1, merged), e: (2, froms)}
                        check_made(self, columns, ("lc_merge", d, e, 1, 2), made)

    def test_every_kind(self):
        for kind in KINDS:
            rows = IN_ORDER[kind]
            twice = [row for row in rows for _ in "ab"]
            froms = [place + half for place in range(len(rows)) for half in (0, len(rows))]
            columns = {1: (kind, rows), 2: (kind, rows)}
            made = {3: (kind, twice), 4: (2, froms)}
            check_made(self, columns, ("lc_merge", 3, 4, 1, 2), made)

    def test_one_slot_as_both(self):
        columns = {1: (4, [255, 0])}
        check_made(self, columns, ("lc_merge", 1, 2, 1, 1), {1: (4, [255, 255, 0, 0]), 2: (2, [0, 2, 1, 3])})

    def test_not_in_order(self):
        for kind in KINDS:
            rows = IN_ORDER[kind]
            for place in range(len(rows) - 1):
                turned = rows[:place] + [rows[place + 1], rows[place]] + rows[place + 2:]
                columns = {1: (kind, rows), 2: (kind, turned)}
                check_refused(self, columns, ("lc_merge", 3, 4, 1, 2), -5)
                check_refused(self, columns, ("lc_merge", 3, 4, 2, 1), -5)

    def test_refused(self):
        columns = {0: (2, [5, 6]), 1: (6, [7, 8]), 2: (2, [7, 6]), 3: (2, [])}
        for call, number in (
            (("lc_merge", 16, 1, 0, 0), -2),
            (("lc_merge", 1, 16, 0, 0), -2),
            (("lc_merge", 1, 3, 16, 0), -2),
            (("lc_merge", 1, 3, 0, 16), -2),
            (("lc_merge", 1, 1, 0, 0), -2),
            (("lc_merge", 3, 3, 9, 0), -2),
            (("lc_merge", 1, 3, 9, 0), -3),
            (("lc_merge", 1, 3, 0, 9), -3),
            (("lc_merge", 1, 3, 2, 9), -3),
            (("lc_merge", 1, 3, 0, 1), -4),
            (("lc_merge", 1, 3, 1, 2), -4),
            (("lc_merge", 1, 3, 0, 2), -5),
            (("lc_merge", 1, 3, 2, 3), -5),
        ):
            check_refused(self, columns, call, number)

    def test_large(self):
        half = MOST // 2
        calls = [("lc_count", 0, 2, half, 0, 2), ("lc_count", 1, 2, half, 1, 2), ("lc_merge", 2, 3, 0, 1)]
        calls += [("lc_get", 2, 2, 0, MOST), ("lc_get", 3, 2, 0, MOST)]
        answered = run(calls)
        self.assertEqual(answered[3], [0] + list(range(MOST)))
        self.assertEqual(answered[4], [0] + [row // 2 + half * (row % 2) for row in range(MOST)])

    def test_too_many_rows(self):
        calls = [("lc_count", 0, 2, MOST, 0, 1), ("lc_fill", 1, 2, 1, TOP), ("lc_fill", 2, 2, 0, 0)]
        calls += [("lc_fill", 3, 6, 1, 0), ("lc_put", 4, 2, [2, 1]), ("lc_merge", 5, 6, 0, 1), ("lc_merge", 5, 6, 1, 0)]
        calls += [("lc_merge", 5, 6, 0, 3), ("lc_merge", 5, 6, 0, 4)]
        calls += [("lc_merge", 5, 6, 0, 9), ("lc_merge", 5, 5, 0, 1)]
        calls += [("lc_look", 5), ("lc_look", 6), ("lc_look", 0), ("lc_merge", 5, 6, 2, 0), ("lc_merge", 0, 1, 0, 2)]
        answers = [[-1], [-1], [-4], [-5], [-3], [-2], [-3], [-3], [0, 2, MOST], [MOST], [MOST]]
        self.assertEqual(run(calls)[5:], answers)
        # Order is looked at ahead of how many rows there would be.
        calls = [("lc_count", 0, 2, MOST, TOP, TOP), ("lc_merge", 1, 2, 0, 0)]
        self.assertEqual(run(calls)[1], [-5])


if __name__ == "__main__":
    unittest.main()
