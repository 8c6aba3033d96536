"""Points 11 to 13: rows moved."""

import unittest

from helper import IN_ORDER, KINDS, MOST, TOP, check_made, check_refused, run


class PickTest(unittest.TestCase):
    def test_every_kind(self):
        for kind in KINDS:
            rows = IN_ORDER[kind]
            for marks in ([0] * len(rows), [1] * len(rows), [0, 1] * (len(rows) // 2), [1, 0] * (len(rows) // 2)):
                rows = rows[:len(marks)]
                marks = marks[:len(rows)]
                picked = [row for row, mark in zip(rows, marks) if mark == 1]
                columns = {1: (kind, rows), 2: (10, marks)}
                for d in (0, 1, 2):
                    check_made(self, columns, ("lc_pick", d, 1, 2), {d: (kind, picked)})

    def test_few_rows(self):
        check_made(self, {1: (8, []), 2: (10, [])}, ("lc_pick", 0, 1, 2), {0: (8, [])})
        check_made(self, {1: (8, [5]), 2: (10, [0])}, ("lc_pick", 0, 1, 2), {0: (8, [])})
        check_made(self, {1: (8, [5]), 2: (10, [1])}, ("lc_pick", 0, 1, 2), {0: (8, [5])})
        check_made(self, {2: (10, [1, 0, 1])}, ("lc_pick", 2, 2, 2), {2: (10, [1, 1])})

    def test_refused(self):
        columns = {0: (2, [5, 6]), 1: (10, [1, 0]), 2: (10, [1]), 3: (0, [1])}
        for call, number in (
            (("lc_pick", 16, 0, 1), -2),
            (("lc_pick", 0, 16, 1), -2),
            (("lc_pick", 0, 0, 16), -2),
            (("lc_pick", 0, 9, 16), -2),
            (("lc_pick", 0, 9, 1), -3),
            (("lc_pick", 0, 0, 9), -3),
            (("lc_pick", 0, 9, 3), -3),
            (("lc_pick", 0, 1, 0), -4),
            (("lc_pick", 0, 0, 3), -4),
            (("lc_pick", 0, 0, 2), -5),
            (("lc_pick", 0, 3, 1), -5),
        ):
            check_refused(self, columns, call, number)


class LayTest(unittest.TestCase):
    def test_every_kind(self):
        for kind in KINDS:
            low = IN_ORDER[kind][0]
            high = IN_ORDER[kind][-1]
            columns = {1: (kind, [high, low, high]), 2: (10, [0, 1, 1, 0, 1]), 3: (kind, [low, low, high, high, low])}
            made = (kind, [low, high, low, high, high])
            for d in range(4):
                check_made(self, columns, ("lc_lay", d, 1, 2, 3), {d: made})

    def test_written_out(self):
        for a, marks, b, made in (
            ([], [], [], []),
            ([], [0], [7], [7]),
            ([8], [1], [7], [8]),
            ([], [0, 0, 0], [7, 8, 9], [7, 8, 9]),
            ([4, 5, 6], [1, 1, 1], [7, 8, 9], [4, 5, 6]),
            ([4, 5], [1, 0, 1], [7, 8, 9], [4, 8, 5]),
            ([4], [0, 0, 1], [7, 8, 9], [7, 8, 4]),
        ):
            columns = {1: (1, a), 2: (10, marks), 3: (1, b)}
            check_made(self, columns, ("lc_lay", 0, 1, 2, 3), {0: (1, made)})

    def test_marks_laid_into_themselves(self):
        columns = {1: (10, [0, 0]), 2: (10, [1, 0, 1])}
        check_made(self, columns, ("lc_lay", 2, 1, 2, 2), {2: (10, [0, 0, 0])})

    def test_refused(self):
        columns = {
            0: (2, [5]), 1: (10, [1, 0]), 2: (2, [7, 8]), 3: (2, [7, 8, 9]),
            4: (6, [5]), 5: (2, []), 6: (10, [1, 1, 0]),
        }
        for call, number in (
            (("lc_lay", 16, 0, 1, 2), -2),
            (("lc_lay", 0, 16, 1, 2), -2),
            (("lc_lay", 0, 0, 16, 2), -2),
            (("lc_lay", 0, 0, 1, 16), -2),
            (("lc_lay", 0, 9, 0, 16), -2),
            (("lc_lay", 0, 9, 1, 2), -3),
            (("lc_lay", 0, 0, 9, 2), -3),
            (("lc_lay", 0, 4, 1, 9), -3),
            (("lc_lay", 0, 4, 1, 2), -4),
            (("lc_lay", 0, 0, 2, 2), -4),
            (("lc_lay", 0, 4, 1, 3), -4),
            (("lc_lay", 0, 0, 3, 2), -4),
            (("lc_lay", 0, 0, 1, 3), -5),
            (("lc_lay", 0, 5, 1, 2), -5),
            (("lc_lay", 0, 2, 1, 2), -5),
            (("lc_lay", 0, 2, 6, 2), -5),
            (("lc_lay", 0, 3, 6, 3), -5),
        ):
            check_refused(self, columns, call, number)
        check_made(self, columns, ("lc_lay", 0, 2, 6, 3), {0: (2, [7, 8, 9])})


class ChooseTest(unittest.TestCase):
    def test_every_kind(self):
        for kind in KINDS:
            low = IN_ORDER[kind][0]
            high = IN_ORDER[kind][-1]
            columns = {1: (10, [0, 1, 1, 0]), 2: (kind, [low, high, low, low]), 3: (kind, [high, low, high, low])}
            for d in range(4):
                check_made(self, columns, ("lc_choose", d, 1, 2, 3), {d: (kind, [high, high, low, low])})

    def test_few_rows(self):
        for marks, a, b, made in (([], [], [], []), ([0], [1], [2], [2]), ([1], [1], [2], [1])):
            columns = {1: (10, marks), 2: (3, a), 3: (3, b)}
            check_made(self, columns, ("lc_choose", 0, 1, 2, 3), {0: (3, made)})

    def test_refused(self):
        columns = {0: (10, [1, 0]), 1: (2, [5, 6]), 2: (2, [7]), 3: (6, [7, 8]), 4: (10, [1])}
        for call, number in (
            (("lc_choose", 16, 0, 1, 1), -2),
            (("lc_choose", 0, 16, 1, 1), -2),
            (("lc_choose", 0, 0, 16, 1), -2),
            (("lc_choose", 0, 0, 1, 16), -2),
            (("lc_choose", 0, 9, 16, 1), -2),
            (("lc_choose", 0, 9, 1, 1), -3),
            (("lc_choose", 0, 0, 9, 3), -3),
            (("lc_choose", 0, 1, 1, 9), -3),
            (("lc_choose", 0, 1, 1, 1), -4),
            (("lc_choose", 0, 0, 1, 3), -4),
            (("lc_choose", 0, 4, 1, 3), -4),
            (("lc_choose", 0, 0, 2, 1), -5),
            (("lc_choose", 0, 0, 1, 2), -5),
            (("lc_choose", 0, 0, 2, 2), -5),
            (("lc_choose", 0, 4, 1, 1), -5),
        ):
            check_refused(self, columns, call, number)


class FromTest(unittest.TestCase):
    def test_every_kind(self):
        for kind in KINDS:
            rows = IN_ORDER[kind]
            last = len(rows) - 1
            at = [last, 0, 0, last, 1]
            columns = {1: (kind, rows), 2: (2, at)}
            made = (kind, [rows[last], rows[0], rows[0], rows[last], rows[1]])
            for d in range(3):
                check_made(self, columns, ("lc_from", d, 1, 2), {d: made})

    def test_few_rows(self):
        check_made(self, {1: (9, []), 2: (2, [])}, ("lc_from", 0, 1, 2), {0: (9, [])})
        check_made(self, {1: (9, [4, 5]), 2: (2, [])}, ("lc_from", 0, 1, 2), {0: (9, [])})
        check_made(self, {1: (9, [4]), 2: (2, [0, 0, 0])}, ("lc_from", 0, 1, 2), {0: (9, [4, 4, 4])})
        check_made(self, {1: (2, [2, 0, 1])}, ("lc_from", 1, 1, 1), {1: (2, [1, 2, 0])})

    def test_refused(self):
        columns = {0: (6, [5, 6]), 1: (2, [1, 0]), 2: (2, [0, 2]), 3: (2, [TOP]), 4: (2, []), 5: (6, [])}
        for call, number in (
            (("lc_from", 16, 0, 1), -2),
            (("lc_from", 0, 16, 1), -2),
            (("lc_from", 0, 0, 16), -2),
            (("lc_from", 0, 9, 16), -2),
            (("lc_from", 0, 9, 1), -3),
            (("lc_from", 0, 0, 9), -3),
            (("lc_from", 0, 9, 0), -3),
            (("lc_from", 0, 0, 0), -4),
            (("lc_from", 0, 4, 0), -4),
            (("lc_from", 0, 1, 5), -4),
            (("lc_from", 0, 0, 2), -5),
            (("lc_from", 0, 0, 3), -5),
            (("lc_from", 0, 4, 1), -5),
        ):
            check_refused(self, columns, call, number)

    def test_large(self):
        calls = [("lc_count", 0, 3, MOST, 5, 2**40), ("lc_count", 1, 2, MOST, MOST - 1, TOP)]
        calls += [("lc_from", 2, 0, 1), ("lc_get", 2, 3, 0, MOST)]
        rows = [(5 + i * 2**40) % 2**64 for i in range(MOST)]
        self.assertEqual(run(calls)[2:], [[MOST], [0] + rows[::-1]])


class ToTest(unittest.TestCase):
    def test_every_kind(self):
        for kind in KINDS:
            low = IN_ORDER[kind][0]
            high = IN_ORDER[kind][-1]
            columns = {1: (kind, [high, low, high]), 2: (2, [3, 0, 1]), 3: (kind, [high, low, low, low])}
            for d in range(4):
                check_made(self, columns, ("lc_to", d, 1, 2, 3), {d: (kind, [low, high, low, high])})

    def test_written_out(self):
        for a, at, b, made in (
            ([], [], [], []),
            ([], [], [7, 8], [7, 8]),
            ([4], [0], [7], [4]),
            ([4, 5, 6], [1, 1, 1], [7, 8, 9], [7, 6, 9]),
            ([4, 5, 6, 4], [1, 0, 1, 0], [7, 8], [4, 6]),
            ([6, 5], [2, 2], [7, 8, 9], [7, 8, 5]),
        ):
            columns = {1: (5, a), 2: (2, at), 3: (5, b)}
            check_made(self, columns, ("lc_to", 0, 1, 2, 3), {0: (5, made)})

    def test_one_slot_for_all(self):
        check_made(self, {1: (2, [1, 2, 0])}, ("lc_to", 1, 1, 1, 1), {1: (2, [0, 1, 2])})

    def test_refused(self):
        columns = {
            0: (6, [5, 6]), 1: (2, [1, 0]), 2: (2, [0, 2]), 3: (2, [0]), 4: (6, [1, 2, 3]), 5: (2, [5, 6]), 6: (6, []),
        }
        for call, number in (
            (("lc_to", 16, 0, 1, 0), -2),
            (("lc_to", 0, 16, 1, 0), -2),
            (("lc_to", 0, 0, 16, 0), -2),
            (("lc_to", 0, 0, 1, 16), -2),
            (("lc_to", 0, 9, 1, 16), -2),
            (("lc_to", 0, 9, 1, 0), -3),
            (("lc_to", 0, 0, 9, 0), -3),
            (("lc_to", 0, 0, 0, 9), -3),
            (("lc_to", 0, 0, 4, 0), -4),
            (("lc_to", 0, 5, 1, 0), -4),
            (("lc_to", 0, 5, 3, 6), -4),
            (("lc_to", 0, 0, 2, 0), -5),
            (("lc_to", 0, 0, 3, 0), -5),
            (("lc_to", 0, 4, 1, 0), -5),
            (("lc_to", 0, 0, 1, 6), -5),
        ):
            check_refused(self, columns, call, number)
        check_made(self, columns, ("lc_to", 6, 0, 2, 4), {6: (6, [5, 2, 6])})


class UndoTest(unittest.TestCase):
    def test_written_out(self):
        for p, made in (
            ([], []),
            ([0], [0]),
            ([1, 0], [1, 0]),
            ([2, 0, 1], [1, 2, 0]),
            ([3, 1, 0, 4, 2], [2, 1, 4, 0, 3]),
        ):
            for d in (0, 1):
                check_made(self, {1: (2, p)}, ("lc_undo", d, 1), {d: (2, made)})

    def test_refused(self):
        columns = {0: (2, [0, 0]), 1: (2, [1, 2]), 2: (2, [1]), 3: (2, [0, TOP]), 4: (6, [0]), 5: (2, [0, 2, 2])}
        for call, number in (
            (("lc_undo", 16, 0), -2),
            (("lc_undo", 0, 16), -2),
            (("lc_undo", 16, 9), -2),
            (("lc_undo", 0, 9), -3),
            (("lc_undo", 0, 4), -4),
            (("lc_undo", 0, 0), -5),
            (("lc_undo", 0, 1), -5),
            (("lc_undo", 0, 2), -5),
            (("lc_undo", 0, 3), -5),
            (("lc_undo", 0, 5), -5),
        ):
            check_refused(self, columns, call, number)

    def test_row_numbers_of_another_kind(self):
        for kind in KINDS:
            if kind != 2:
                check_refused(self, {1: (kind, [1, 0])}, ("lc_undo", 0, 1), -4)

    def test_large(self):
        calls = [("lc_count", 0, 1, MOST, 5, 12345), ("lc_cast", 0, 0, 2, 0), ("lc_undo", 1, 0)]
        calls += [("lc_from", 2, 0, 1), ("lc_get", 2, 2, 0, MOST), ("lc_undo", 1, 1), ("lc_compare", 3, 0, 1, 3)]
        calls += [("lc_pick", 3, 3, 3)]
        answered = run(calls)
        self.assertEqual(answered[4], [0] + list(range(MOST)))
        self.assertEqual(answered[5:], [[MOST], [MOST], [0]])


class SliceTest(unittest.TestCase):
    def test_every_stretch(self):
        for kind in (0, 7, 9, 10):
            one = IN_ORDER[kind][:3]
            other = IN_ORDER[kind][-2:]
            rows = one + other
            for begin in range(len(rows) + 1):
                for n in range(len(rows) - begin + 1):
                    columns = {1: (kind, one), 2: (kind, other)}
                    for d in range(3):
                        made = {d: (kind, rows[begin:begin + n])}
                        check_made(self, columns, ("lc_slice", d, 1, 2, begin, n), made)

    def test_few_rows(self):
        check_made(self, {1: (4, [])}, ("lc_slice", 0, 1, 1, 0, 0), {0: (4, [])})
        check_made(self, {1: (4, [9])}, ("lc_slice", 1, 1, 1, 0, 2), {1: (4, [9, 9])})

    def test_refused(self):
        columns = {0: (2, [5, 6]), 1: (2, [7]), 2: (6, [7]), 3: (6, [])}
        for call, number in (
            (("lc_slice", 16, 0, 1, 0, 0), -2),
            (("lc_slice", 0, 16, 1, 0, 0), -2),
            (("lc_slice", 0, 0, 16, 0, 0), -2),
            (("lc_slice", 0, 0, 1, 131073, 0), -2),
            (("lc_slice", 0, 0, 1, 0, MOST + 1), -2),
            (("lc_slice", 0, 9, 1, 0, MOST + 1), -2),
            (("lc_slice", 0, 9, 1, 0, 0), -3),
            (("lc_slice", 0, 2, 9, 0, MOST), -3),
            (("lc_slice", 0, 0, 2, 0, 1), -4),
            (("lc_slice", 0, 0, 2, 131072, MOST), -4),
            (("lc_slice", 0, 0, 1, 0, 4), -5),
            (("lc_slice", 0, 0, 1, 3, 1), -5),
            (("lc_slice", 0, 0, 1, 2, 2), -5),
            (("lc_slice", 0, 0, 1, 4, 0), -5),
            (("lc_slice", 0, 0, 1, 131072, 0), -5),
            (("lc_slice", 0, 3, 3, 0, 1), -5),
        ):
            check_refused(self, columns, call, number)

    def test_large(self):
        calls = [("lc_count", 0, 2, MOST, 0, 1), ("lc_count", 1, 2, MOST, MOST, 1)]
        calls += [("lc_slice", 2, 0, 1, 40000, MOST), ("lc_get", 2, 2, 0, MOST)]
        calls += [("lc_slice", 2, 0, 1, 131072, 0), ("lc_slice", 2, 0, 1, 131071, 1), ("lc_get", 2, 2, 0, 1)]
        calls += [("lc_slice", 2, 0, 1, 131072, 1), ("lc_slice", 2, 0, 1, MOST, MOST)]
        calls += [("lc_slice", 2, 0, 1, MOST + 1, MOST)]
        answered = run(calls)
        self.assertEqual(answered[3], [0] + list(range(40000, 40000 + MOST)))
        self.assertEqual(answered[4:], [[0], [1], [0, 131071], [-5], [MOST], [-5]])


class RearrangeTest(unittest.TestCase):
    def test_written_out(self):
        for rows, turned, parted, woven in (
            ([], [], [], []),
            ([1], [1], [1], None),
            ([1, 2], [2, 1], [1, 2], [1, 2]),
            ([1, 2, 3], [3, 2, 1], [1, 3, 2], None),
            ([1, 2, 3, 4], [4, 3, 2, 1], [1, 3, 2, 4], [1, 3, 2, 4]),
            ([1, 2, 3, 4, 5, 6], [6, 5, 4, 3, 2, 1], [1, 3, 5, 2, 4, 6], [1, 4, 2, 5, 3, 6]),
            ([1, 2, 3, 4, 5, 6, 7], [7, 6, 5, 4, 3, 2, 1], [1, 3, 5, 7, 2, 4, 6], None),
        ):
            for how, made in enumerate((turned, parted, woven)):
                for d in (0, 1):
                    call = ("lc_rearrange", d, 1, how)
                    if made is None:
                        check_refused(self, {1: (0, rows)}, call, -5)
                    else:
                        check_made(self, {1: (0, rows)}, call, {d: (0, made)})

    def test_every_kind(self):
        for kind in KINDS:
            rows = IN_ORDER[kind]
            check_made(self, {1: (kind, rows)}, ("lc_rearrange", 0, 1, 0), {0: (kind, rows[::-1])})

    def test_refused(self):
        columns = {0: (2, [5, 6]), 1: (2, [7])}
        for call, number in (
            (("lc_rearrange", 16, 0, 0), -2),
            (("lc_rearrange", 0, 16, 0), -2),
            (("lc_rearrange", 0, 0, 3), -2),
            (("lc_rearrange", 0, 1, 3), -2),
            (("lc_rearrange", 0, 9, 3), -2),
            (("lc_rearrange", 0, 9, 2), -3),
            (("lc_rearrange", 0, 1, 2), -5),
        ):
            check_refused(self, columns, call, number)

    def test_large(self):
        calls = [("lc_count", 0, 2, MOST, 0, 1), ("lc_rearrange", 0, 0, 1), ("lc_get", 0, 2, 0, MOST)]
        calls += [("lc_rearrange", 0, 0, 2), ("lc_rearrange", 0, 0, 0), ("lc_get", 0, 2, 0, MOST)]
        answered = run(calls)
        self.assertEqual(answered[2], [0, *range(0, MOST, 2), *range(1, MOST, 2)])
        self.assertEqual(answered[5], [0, *range(MOST - 1, -1, -1)])


if __name__ == "__main__":
    unittest.main()
