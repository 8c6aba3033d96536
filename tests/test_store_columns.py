"""Points 7 to 10: columns put in, looked at, made, cast, compared; marks."""

import unittest

from helper import ALL64, IN_ORDER, KINDS, MOST, TOP, WHOLE, WIDTHS, Mixer
from helper import check_made, check_refused, mixed_up, run, slots_after


class PutTest(unittest.TestCase):
    def test_every_kind_and_slot(self):
        for kind in KINDS:
            for slot in (0, 7, 15):
                check_made(self, {}, ("lc_put", slot, kind, IN_ORDER[kind]), {slot: (kind, IN_ORDER[kind])})

    def test_without_rows_and_with_one(self):
        for kind in KINDS:
            check_made(self, {}, ("lc_put", 3, kind, []), {3: (kind, [])})
            check_made(self, {}, ("lc_put", 3, kind, IN_ORDER[kind][-1:]), {3: (kind, IN_ORDER[kind][-1:])})

    def test_what_was_there_is_gone(self):
        columns = {2: (9, [5, 6, 7]), 3: (0, [1])}
        check_made(self, columns, ("lc_put", 2, 0, [9]), {2: (0, [9])})
        check_made(self, columns, ("lc_put", 2, 10, []), {2: (10, [])})

    def test_as_many_values_as_there_can_be(self):
        values = [row * 4 for row in range(15000)]
        self.assertEqual(slots_after([("lc_put", 0, 1, values)])[0], (1, values))

    def test_refused(self):
        columns = {1: (2, [4, 5])}
        for values in ([], [1, 0, 1]):
            check_refused(self, columns, ("lc_put", 16, 2, values), -2)
            check_refused(self, columns, ("lc_put", 2147483647, 2, values), -2)
            check_refused(self, columns, ("lc_put", 1, 11, values), -2)
            check_refused(self, columns, ("lc_put", 1, 2147483647, values), -2)

    def test_values_of_a_kind_that_is_none(self):
        check_refused(self, {}, ("lc_put", 1, 11, [ALL64, 0, TOP]), -2)
        # The call behind it is read where the values end.
        calls = [("lc_put", 1, 11, [10, 13, 14]), ("lc_look", 1), ("lc_put", 16, 0, [11]), ("lc_open",)]
        self.assertEqual(run(calls), [[-2], [-3], [-2], [0]])


class GetTest(unittest.TestCase):
    def test_every_stretch(self):
        for kind in KINDS:
            rows = IN_ORDER[kind]
            for begin in range(len(rows) + 1):
                for n in range(len(rows) - begin + 1):
                    calls = [("lc_put", 6, kind, rows), ("lc_get", 6, kind, begin, n)]
                    self.assertEqual(run(calls)[1], [0] + rows[begin:begin + n])

    def test_refused(self):
        columns = {4: (6, [1, 2, 3]), 5: (6, [])}
        for call, number in (
            (("lc_get", 16, 6, 0, 1), -2),
            (("lc_get", 4, 11, 0, 1), -2),
            (("lc_get", 4, 6, MOST + 1, 0), -2),
            (("lc_get", 4, 6, 0, MOST + 1), -2),
            (("lc_get", 4, 6, 2147483647, 2147483647), -2),
            (("lc_get", 3, 6, 0, 0), -3),
            (("lc_get", 3, 10, MOST, MOST), -3),
            (("lc_get", 4, 2, 0, 3), -4),
            (("lc_get", 4, 2, 0, 4), -4),
            (("lc_get", 4, 6, 0, 4), -5),
            (("lc_get", 4, 6, 1, 3), -5),
            (("lc_get", 4, 6, 3, 1), -5),
            (("lc_get", 4, 6, 4, 0), -5),
            (("lc_get", 4, 6, MOST, 0), -5),
            (("lc_get", 4, 6, 0, MOST), -5),
            (("lc_get", 5, 6, 0, 1), -5),
            (("lc_get", 5, 6, 1, 0), -5),
        ):
            check_refused(self, columns, call, number)

    def test_largest(self):
        calls = [("lc_count", 0, 1, MOST, 0, 1), ("lc_get", 0, 1, 0, MOST), ("lc_get", 0, 1, MOST, 0)]
        calls += [("lc_get", 0, 1, MOST - 1, 1), ("lc_get", 0, 1, 1, MOST), ("lc_get", 0, 1, MOST, 1)]
        answered = run(calls)
        self.assertEqual(answered[1], [0] + list(range(MOST)))
        self.assertEqual(answered[2:], [[0], [0, MOST - 1], [-5], [-5]])


class OpenDropLookTest(unittest.TestCase):
    def test_new_store_has_no_columns(self):
        self.assertEqual(slots_after([]), dict.fromkeys(range(16)))

    def test_open(self):
        columns = {slot: (slot % 11, [1]) for slot in range(16)}
        check_made(self, columns, ("lc_open",), dict.fromkeys(range(16)), [0])
        check_made(self, {}, ("lc_open",), {}, [0])

    def test_drop(self):
        columns = {slot: (slot % 11, [1]) for slot in range(16)}
        for slot in range(16):
            check_made(self, columns, ("lc_drop", slot), {slot: None}, [0])
        check_made(self, {3: (2, [])}, ("lc_drop", 3), {3: None}, [0])

    def test_drop_refused(self):
        columns = {3: (2, [1])}
        check_refused(self, columns, ("lc_drop", 16), -2)
        check_refused(self, columns, ("lc_drop", 2147483647), -2)
        check_refused(self, columns, ("lc_drop", 2), -3)
        self.assertEqual(run([("lc_put", 3, 2, [1]), ("lc_drop", 3), ("lc_drop", 3)])[1:], [[0], [-3]])

    def test_look(self):
        for kind in KINDS:
            for n in (0, 1, 2):
                answer = [0, kind, n]
                check_made(self, {8: (kind, [1] * n)}, ("lc_look", 8), {}, answer)
        self.assertEqual(run([("lc_fill", 0, 9, MOST, 5), ("lc_look", 0)])[1], [0, 9, MOST])

    def test_look_refused(self):
        check_refused(self, {3: (2, [1])}, ("lc_look", 16), -2)
        check_refused(self, {3: (2, [1])}, ("lc_look", 4), -3)


class FillTest(unittest.TestCase):
    def test_lowest_bits(self):
        for kind in KINDS:
            for value in (0, 1, 2, 128, 256, 255, 65536, 65535, TOP, TOP + 1, 2**63, ALL64, ALL64 - 1):
                kept = value % 2 ** WIDTHS[kind]
                for n in (0, 1, 3):
                    check_made(self, {4: (1, [8])}, ("lc_fill", 4, kind, n, value), {4: (kind, [kept] * n)})

    def test_large(self):
        for n in (MOST - 1, MOST):
            calls = [("lc_fill", 15, 7, n, ALL64), ("lc_get", 15, 7, 0, n)]
            self.assertEqual(run(calls), [[n], [0] + [ALL64] * n])

    def test_refused(self):
        columns = {4: (1, [8])}
        for call in (
            ("lc_fill", 16, 0, 1, 1),
            ("lc_fill", 4, 11, 1, 1),
            ("lc_fill", 4, 0, MOST + 1, 1),
            ("lc_fill", 2147483647, 2147483647, 2147483647, ALL64),
        ):
            check_refused(self, columns, call, -2)


class CountTest(unittest.TestCase):
    def test_modulo_the_range(self):
        for kind in WHOLE:
            bound = 2 ** WIDTHS[kind]
            for first in (0, 5, bound - 2, bound // 2 - 1, ALL64):
                for step in (0, 1, 3, bound // 2, bound - 1, ALL64):
                    for n in (0, 1, 7):
                        rows = []
                        number = first % bound
                        while len(rows) < n:
                            rows.append(number)
                            number = (number + step) % bound
                        call = ("lc_count", 9, kind, n, first, step)
                        check_made(self, {9: (8, [1])}, call, {9: (kind, rows)})

    def test_large(self):
        calls = [("lc_count", 0, 2, MOST, 7, 65537), ("lc_get", 0, 2, 0, MOST)]
        rows = [(7 + 65537 * i) % 2**32 for i in range(MOST)]
        self.assertEqual(run(calls), [[MOST], [0] + rows])

    def test_refused(self):
        columns = {4: (1, [8])}
        for call, number in (
            (("lc_count", 16, 0, 1, 1, 1), -2),
            (("lc_count", 4, 11, 1, 1, 1), -2),
            (("lc_count", 4, 0, MOST + 1, 1, 1), -2),
            (("lc_count", 16, 8, 1, 1, 1), -2),
            (("lc_count", 4, 8, MOST + 1, 1, 1), -2),
            (("lc_count", 4, 8, 1, 1, 1), -4),
            (("lc_count", 4, 9, 0, 1, 1), -4),
            (("lc_count", 4, 10, MOST, 1, 1), -4),
        ):
            check_refused(self, columns, call, number)


def stands_for(kind, bits):
    size = WIDTHS[kind] // 8
    return int.from_bytes(bits.to_bytes(size, "big"), "big", signed=kind >= 4)


class CastTest(unittest.TestCase):
    def test_written_out(self):
        for a, kind, way, made in (
            ((4, [128, 255, 0, 127]), 2, 0, [TOP - 127, TOP, 0, 127]),
            ((4, [128, 255, 0, 127]), 2, 1, [0, 0, 0, 127]),
            ((4, [128, 255, 0, 127]), 7, 0, [ALL64 - 127, ALL64, 0, 127]),
            ((4, [128, 255, 0, 127]), 7, 1, [ALL64 - 127, ALL64, 0, 127]),
            ((5, [32768, 65535, 65408, 65407, 127, 128, 32767]), 4, 0, [0, 255, 128, 127, 127, 128, 255]),
            ((5, [32768, 65535, 65408, 65407, 127, 128, 32767]), 4, 1, [128, 255, 128, 128, 127, 127, 127]),
            ((5, [32768, 65535, 65407, 128, 255, 256]), 0, 1, [0, 0, 0, 128, 255, 255]),
            ((0, [0, 127, 128, 255]), 4, 0, [0, 127, 128, 255]),
            ((0, [0, 127, 128, 255]), 4, 1, [0, 127, 127, 127]),
            ((0, [0, 127, 128, 255]), 5, 0, [0, 127, 128, 255]),
            ((3, [ALL64, 2**63, TOP, TOP + 1]), 2, 0, [TOP, 0, TOP, 0]),
            ((3, [ALL64, 2**63, TOP, TOP + 1]), 2, 1, [TOP, TOP, TOP, TOP]),
            ((3, [ALL64, 2**63, 2**63 - 1]), 7, 1, [2**63 - 1] * 3),
            ((7, [ALL64, 2**63, 2**63 - 1]), 3, 1, [0, 0, 2**63 - 1]),
        ):
            check_made(self, {1: a}, ("lc_cast", 0, 1, kind, way), {0: (kind, made)})

    def test_all_whole_kinds(self):
        for kind in WHOLE:
            bound = 2 ** WIDTHS[kind]
            lowest = -bound // 2 if kind >= 4 else 0
            for source in WHOLE:
                numbers = [stands_for(source, bits) for bits in IN_ORDER[source]]
                held = [sorted((lowest, number, lowest + bound - 1))[1] for number in numbers]
                for way, made in ((0, numbers), (1, held)):
                    column = (kind, [number % bound for number in made])
                    for d in (0, 1):
                        call = ("lc_cast", d, 1, kind, way)
                        check_made(self, {1: (source, IN_ORDER[source])}, call, {d: column})

    def test_from_marks(self):
        marks = (10, [0, 1, 1, 0])
        for way in (0, 1):
            for kind in WHOLE:
                full = 2 ** WIDTHS[kind] - 1
                call = ("lc_cast", 5, 5, kind, way)
                check_made(self, {5: marks}, call, {5: (kind, [0, full, full, 0])})
            check_made(self, {5: marks}, ("lc_cast", 6, 5, 10, way), {6: marks})

    def test_to_marks(self):
        for way in (0, 1):
            for kind in WHOLE:
                high = 2 ** (WIDTHS[kind] - 1)
                rows = [0, 1, high - 1, high, high + 1, 2 * high - 1]
                call = ("lc_cast", 5, 5, 10, way)
                check_made(self, {5: (kind, rows)}, call, {5: (10, [0, 0, 0, 1, 1, 1])})

    def test_without_rows(self):
        for source in (*WHOLE, 10):
            for kind in (*WHOLE, 10):
                check_made(self, {5: (source, [])}, ("lc_cast", 0, 5, kind, 1), {0: (kind, [])})

    def test_refused(self):
        columns = {0: (2, [1]), 1: (8, [1]), 2: (9, [1]), 3: (10, [1])}
        for call, number in (
            (("lc_cast", 16, 0, 0, 0), -2),
            (("lc_cast", 0, 16, 0, 0), -2),
            (("lc_cast", 0, 0, 11, 0), -2),
            (("lc_cast", 0, 0, 0, 2), -2),
            (("lc_cast", 0, 4, 0, 2), -2),
            (("lc_cast", 0, 1, 0, 2), -2),
            (("lc_cast", 0, 4, 8, 1), -3),
            (("lc_cast", 0, 4, 10, 1), -3),
            (("lc_cast", 0, 0, 8, 0), -4),
            (("lc_cast", 0, 0, 9, 1), -4),
            (("lc_cast", 0, 1, 2, 0), -4),
            (("lc_cast", 0, 2, 3, 0), -4),
            (("lc_cast", 0, 1, 8, 0), -4),
            (("lc_cast", 0, 2, 10, 1), -4),
            (("lc_cast", 0, 3, 9, 1), -4),
        ):
            check_refused(self, columns, call, number)


class CompareTest(unittest.TestCase):
    def test_edges_of_every_kind(self):
        for kind in KINDS:
            rows = IN_ORDER[kind]
            places = range(len(rows))
            one = [rows[i] for i in places for _ in places]
            other = [rows[j] for _ in places for j in places]
            pairs = [(i, j) for i in places for j in places]
            for op, marks in enumerate((
                [i < j for i, j in pairs],
                [i <= j for i, j in pairs],
                [i == j for i, j in pairs],
                [i != j for i, j in pairs],
                [i >= j for i, j in pairs],
                [i > j for i, j in pairs],
            )):
                columns = {1: (kind, one), 2: (kind, other)}
                made = (10, [int(mark) for mark in marks])
                for d in (0, 1, 2):
                    check_made(self, columns, ("lc_compare", d, 1, 2, op), {d: made})

    def test_one_slot_twice_and_no_rows(self):
        for op, mark in enumerate((0, 1, 1, 0, 1, 0)):
            check_made(self, {3: (8, [0x7FC00000])}, ("lc_compare", 3, 3, 3, op), {3: (10, [mark])})
            check_made(self, {3: (8, [])}, ("lc_compare", 3, 3, 3, op), {3: (10, [])})

    def test_refused(self):
        columns = {0: (2, [1, 2]), 1: (6, [1, 2]), 2: (2, [1]), 3: (6, [])}
        for call, number in (
            (("lc_compare", 16, 0, 0, 0), -2),
            (("lc_compare", 0, 16, 0, 0), -2),
            (("lc_compare", 0, 0, 16, 0), -2),
            (("lc_compare", 0, 0, 0, 6), -2),
            (("lc_compare", 0, 9, 3, 6), -2),
            (("lc_compare", 0, 9, 0, 5), -3),
            (("lc_compare", 0, 0, 9, 5), -3),
            (("lc_compare", 0, 3, 9, 5), -3),
            (("lc_compare", 0, 0, 1, 0), -4),
            (("lc_compare", 0, 0, 3, 0), -4),
            (("lc_compare", 0, 0, 2, 0), -5),
            (("lc_compare", 0, 3, 1, 0), -5),
        ):
            check_refused(self, columns, call, number)


class BetweenTest(unittest.TestCase):
    def test_edges_of_every_kind(self):
        for kind in KINDS:
            rows = IN_ORDER[kind]
            for i, lo in enumerate(rows):
                for j, hi in enumerate(rows):
                    marks = [int(i <= place <= j) for place in range(len(rows))]
                    calls = [("lc_put", 1, kind, rows), ("lc_between", 0, 1, lo, hi)]
                    calls.append(("lc_get", 0, 10, 0, len(rows)))
                    self.assertEqual(run(calls)[1:], [[len(rows)], [0] + marks], (kind, lo, hi))

    def test_lowest_bits_of_the_bounds(self):
        for kind in KINDS:
            bound = 2 ** WIDTHS[kind]
            rows = IN_ORDER[kind]
            lo = rows[len(rows) // 2]
            made = {1: (10, [int(i >= len(rows) // 2) for i in range(len(rows))])}
            if bound < 2**64:
                for above in (bound, 5 * bound, 2**64 - bound):
                    call = ("lc_between", 1, 1, lo + above, rows[-1] + above)
                    check_made(self, {1: (kind, rows)}, call, made)
            check_made(self, {1: (kind, rows)}, ("lc_between", 1, 1, lo, rows[-1]), made)

    def test_without_rows(self):
        for kind in KINDS:
            check_made(self, {1: (kind, [])}, ("lc_between", 0, 1, 0, ALL64), {0: (10, [])})

    def test_refused(self):
        columns = {0: (2, [1, 2])}
        check_refused(self, columns, ("lc_between", 16, 0, 0, 0), -2)
        check_refused(self, columns, ("lc_between", 0, 16, 0, 0), -2)
        check_refused(self, columns, ("lc_between", 16, 1, 0, 0), -2)
        check_refused(self, columns, ("lc_between", 0, 1, 0, 0), -3)


class MarksTest(unittest.TestCase):
    def test_every_table(self):
        columns = {
            1: (10, [0, 0, 0, 0, 1, 1, 1, 1]),
            2: (10, [0, 0, 1, 1, 0, 0, 1, 1]),
            3: (10, [0, 1, 0, 1, 0, 1, 0, 1]),
        }
        puts = [("lc_put", slot, *column) for slot, column in columns.items()]
        for table in range(256):
            calls = puts + [("lc_marks", 0, 1, 2, 3, table), ("lc_get", 0, 10, 0, 8)]
            self.assertEqual(run(calls)[3:], [[8], [0] + [table >> row & 1 for row in range(8)]])
        for d in range(4):
            made = {d: (10, [0, 1, 1, 0, 1, 0, 0, 1])}
            check_made(self, columns, ("lc_marks", d, 1, 2, 3, 0b10010110), made)

    def test_order_of_the_columns(self):
        columns = {1: (10, [1]), 2: (10, [0]), 3: (10, [0])}
        for slots, bit in (((1, 2, 3), 4), ((2, 1, 3), 2), ((2, 3, 1), 1), ((2, 2, 2), 0), ((1, 1, 1), 7)):
            check_made(self, columns, ("lc_marks", 0, *slots, 1 << bit), {0: (10, [1])})
            check_made(self, columns, ("lc_marks", 0, *slots, 255 ^ 1 << bit), {0: (10, [0])})

    def test_without_rows(self):
        check_made(self, {1: (10, [])}, ("lc_marks", 1, 1, 1, 1, 255), {1: (10, [])})

    def test_refused(self):
        columns = {0: (10, [1, 0]), 1: (10, [1]), 2: (0, [1, 0]), 3: (0, [])}
        for call, number in (
            (("lc_marks", 16, 0, 0, 0, 0), -2),
            (("lc_marks", 0, 16, 0, 0, 0), -2),
            (("lc_marks", 0, 0, 16, 0, 0), -2),
            (("lc_marks", 0, 0, 0, 16, 0), -2),
            (("lc_marks", 0, 0, 0, 0, 256), -2),
            (("lc_marks", 0, 9, 2, 1, 256), -2),
            (("lc_marks", 0, 9, 0, 0, 255), -3),
            (("lc_marks", 0, 0, 9, 0, 255), -3),
            (("lc_marks", 0, 2, 1, 9, 255), -3),
            (("lc_marks", 0, 2, 0, 0, 0), -4),
            (("lc_marks", 0, 0, 2, 0, 0), -4),
            (("lc_marks", 0, 0, 0, 2, 0), -4),
            (("lc_marks", 0, 1, 0, 3, 0), -4),
            (("lc_marks", 0, 1, 0, 0, 0), -5),
            (("lc_marks", 0, 0, 1, 0, 0), -5),
            (("lc_marks", 0, 0, 0, 1, 0), -5),
        ):
            check_refused(self, columns, call, number)


class LargeTest(unittest.TestCase):
    def test_marks_of_large_columns(self):
        calls = [("lc_count", 0, 4, MOST, 0, 1), ("lc_fill", 1, 4, MOST, 255), ("lc_compare", 2, 0, 1, 0)]
        calls += [("lc_between", 3, 0, 200, 50), ("lc_marks", 4, 2, 3, 3, 0b11000000), ("lc_cast", 5, 4, 6, 1)]
        calls += [("lc_get", 4, 10, 0, MOST), ("lc_get", 5, 6, 0, MOST)]
        answered = run(calls)
        marks = [int(200 <= row % 256 < 255) for row in range(MOST)]
        self.assertEqual(answered[:6], [[MOST]] * 6)
        self.assertEqual(answered[6], [0] + marks)
        self.assertEqual(answered[7], [0] + [TOP * mark for mark in marks])

    def test_mixed_kinds_keep_their_bits(self):
        mixer = Mixer(77)
        columns = {slot: (slot % 11, mixed_up(slot % 11, 30, mixer)) for slot in range(16)}
        check_made(self, columns, ("lc_fill", 3, 10, 2, 3), {3: (10, [1, 1])})


if __name__ == "__main__":
    unittest.main()
