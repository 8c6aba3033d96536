"""Point 1: lv_order and lv_rank."""

import unittest

from helper import DOWN, HALF, TOP, UP, check_plain_answers, mixed_rows
from lanesort.sixteen import lv_order, lv_rank

# Each row with its order and its ranks, worked out by hand.
WRITTEN_OUT = {
    "in no order": (
        [50, 20, 90, 10, 70, 0, 30, 80, 60, 40, 150, 110, 140, 100, 130, 120],
        [5, 3, 1, 6, 9, 0, 8, 4, 7, 2, 13, 11, 15, 14, 12, 10],
        [5, 2, 9, 1, 7, 0, 3, 8, 6, 4, 15, 11, 14, 10, 13, 12],
    ),
    "in order": ([3 * word + 7 for word in UP], UP, UP),
    "the other way round": ([1000 - word for word in UP], DOWN, DOWN),
    "the first one is the last in order": (
        [99] + UP[:15],
        UP[1:] + [0],
        [15] + UP[:15],
    ),
    "two that are the same": (
        [8, 7, 6, 5, 4, 3, 2, 1, 9, 10, 11, 12, 13, 14, 15, 1],
        [7, 15, 6, 5, 4, 3, 2, 1, 0, 8, 9, 10, 11, 12, 13, 14],
        [8, 7, 6, 5, 4, 3, 2, 0, 9, 10, 11, 12, 13, 14, 15, 1],
    ),
    "three, four and five that are the same": (
        [5, 3, 5, 1, 3, 5, 1, 3, 9, 5, 1, 3, 5, 0, 9, 2],
        [13, 3, 6, 10, 15, 1, 4, 7, 11, 0, 2, 5, 9, 12, 8, 14],
        [9, 5, 10, 1, 6, 11, 2, 7, 14, 12, 3, 8, 13, 0, 15, 4],
    ),
    "all the same": ([42] * 16, UP, UP),
    "all 0": ([0] * 16, UP, UP),
    "all 4294967295": ([TOP] * 16, UP, UP),
    "the edges of the range": (
        [TOP, 0, HALF, HALF - 1, 1, TOP - 1, HALF + 1, HALF - 2] * 2,
        [1, 9, 4, 12, 7, 15, 3, 11, 2, 10, 6, 14, 5, 13, 0, 8],
        [14, 0, 8, 6, 2, 12, 10, 4, 15, 1, 9, 7, 3, 13, 11, 5],
    ),
    "one above 2147483647 before one not": (
        [HALF] + [HALF - 1] * 15,
        UP[1:] + [0],
        [15] + UP[:15],
    ),
    "words of different lengths as texts": (
        [100, 9, 20, 3, 1000, 10, 2, 1, 200, 30, 4000, 11, 99, 999, 12, 0],
        [15, 7, 6, 3, 1, 5, 11, 14, 2, 9, 12, 0, 8, 13, 4, 10],
        [11, 4, 8, 3, 14, 5, 2, 1, 12, 9, 15, 6, 10, 13, 7, 0],
    ),
}


def counted_ranks(x):
    """The ranks without any sorting: how many words come before each one."""
    return [
        sum(1 for j in UP if x[j] < x[i] or (x[j] == x[i] and j < i)) for i in UP
    ]


def counted_order(x):
    ranks = counted_ranks(x)
    return [ranks.index(i) for i in UP]


def many_rows():
    rows = [row for row, _, _ in WRITTEN_OUT.values()]
    for bound in (2, 3, 7, 16, 1000, HALF + 1, TOP + 1):
        rows += mixed_rows(40, bound)
    # Close to one another on both sides of the middle and at the top.
    rows += [[HALF - 3 + word for word in row] for row in mixed_rows(40, 6)]
    rows += [[TOP - word for word in row] for row in mixed_rows(40, 6)]
    return rows


class OrderTest(unittest.TestCase):
    def test_written_out_rows(self):
        for name, (x, order, _) in WRITTEN_OUT.items():
            with self.subTest(name):
                self.assertEqual(lv_order(x), order)

    def test_many_rows(self):
        for x in many_rows():
            self.assertEqual(lv_order(x), counted_order(x), x)


class RankTest(unittest.TestCase):
    def test_written_out_rows(self):
        for name, (x, _, ranks) in WRITTEN_OUT.items():
            with self.subTest(name):
                self.assertEqual(lv_rank(x), ranks)

    def test_many_rows(self):
        for x in many_rows():
            self.assertEqual(lv_rank(x), counted_ranks(x), x)


class BothTest(unittest.TestCase):
    def test_every_row_of_two_values(self):
        for low, high in ((0, TOP), (HALF - 1, HALF)):
            for bits in range(1 << 16):
                ones = [i for i in UP if bits >> i & 1]
                order = [i for i in UP if not bits >> i & 1] + ones
                x = [high if bits >> i & 1 else low for i in UP]
                if lv_order(x) != order:
                    self.fail(f"lv_order({x}) is {lv_order(x)}, not {order}")
                ranks = lv_rank(x)
                if [ranks[place] for place in order] != UP:
                    self.fail(f"lv_rank({x}) is {ranks}, against {order}")

    def test_one_against_the_other(self):
        for x in many_rows():
            order = lv_order(x)
            ranks = lv_rank(x)
            self.assertEqual([ranks[order[i]] for i in UP], UP, x)
            self.assertEqual([order[ranks[i]] for i in UP], UP, x)

    def test_answers_are_plain_and_nothing_is_changed(self):
        for function in (lv_order, lv_rank):
            answers = check_plain_answers(self, function, [[x] for x in many_rows()])
            self.assertEqual({len(answer) for answer in answers}, {16})

    def test_argument_by_its_name(self):
        self.assertEqual(lv_order(x=list(DOWN)), DOWN)
        self.assertEqual(lv_rank(x=list(DOWN)), DOWN)


if __name__ == "__main__":
    unittest.main()
