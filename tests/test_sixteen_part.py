"""Points 5 and 6: lv_part and lv_sums."""

import unittest

from helper import DOWN, HALF, TOP, UP, check_plain_answers, mixed_rows, spread_rows
from lanesort.sixteen import lv_part, lv_sums

WORDS = [100 + i for i in UP]

# pivot, keys, then WORDS as they are parted and how many are below.
PART = {
    "pivot 0, none is below": (0, [0] + DOWN[1:], WORDS, 0),
    "pivot 4294967295, all below": (TOP, [TOP - 1] * 8 + [0] * 8, WORDS, 16),
    "pivot 4294967295, one is it": (TOP, [TOP] + [TOP - 1] * 15, WORDS[1:] + WORDS[:1], 15),
    "pivot 4294967295, all are it": (TOP, [TOP] * 16, WORDS, 0),
    "a key that is the pivot is not below": (
        5,
        UP,
        WORDS,
        5,
    ),
    "keys from the last down": (5, DOWN, WORDS[11:] + WORDS[:11], 5),
    "all below": (16, DOWN, WORDS, 16),
    "pivot 1": (1, [1, 0] * 8, WORDS[1::2] + WORDS[::2], 8),
    "both parts keep their order": (
        50,
        [90, 10, 50, 49, 51, 0, 50, 48, 99, 1, 2, 70, 50, 3, 60, 40],
        [101, 103, 105, 107, 109, 110, 113, 115, 100, 102, 104, 106, 108, 111, 112, 114],
        8,
    ),
    "both sides of 2147483648": (
        HALF,
        [HALF, HALF - 1, HALF + 1, TOP, 0] + [HALF] * 11,
        [101, 104, 100, 102, 103] + WORDS[5:],
        2,
    ),
}

SUMS = {
    "all keys different": (WORDS, UP, WORDS),
    "all keys the same": (UP, [3] * 16, [i * (i + 1) // 2 for i in UP]),
    "all keys 0": ([1] * 16, [0] * 16, [i + 1 for i in UP]),
    "all keys 4294967295": ([1] * 16, [TOP] * 16, [i + 1 for i in UP]),
    "some the same, not side by side": (
        [1, 2, 3, 4, 5, 6, 7, 8, 9, 10, 11, 12, 13, 14, 15, 16],
        [5, 3, 5, 1, 3, 5, 1, 3, 9, 5, 2, 3, 8, 0, 9, 4],
        [1, 2, 4, 4, 7, 10, 11, 15, 9, 20, 11, 27, 13, 14, 24, 16],
    ),
    "sums that pass 2^32": (
        [TOP] * 16,
        [8] * 16,
        [TOP - i for i in UP],
    ),
    "just not, just and well past 2^32": (
        [TOP, 0, 1, TOP, HALF, HALF, 5, HALF - 1, HALF, 1, 2, 3, 4, 5, 6, 7],
        [1, 1, 1, 1, 2, 2, 2, 3, 3, 3, 4, 5, 6, 7, 8, 9],
        [TOP, TOP, 0, TOP, HALF, 0, 5, HALF - 1, TOP, 0, 2, 3, 4, 5, 6, 7],
    ),
    "keys the same but for the highest bit": (
        [1] * 16,
        [0, HALF] * 8,
        [i // 2 + 1 for i in UP],
    ),
}


def plainly_parted(pivot, x, keys):
    places = [i for i in UP if keys[i] < pivot] + [i for i in UP if not keys[i] < pivot]
    return [16] + [x[i] for i in places] + [1, sum(1 for key in keys if key < pivot)]


def plainly_summed(x, keys):
    return [sum(x[j] for j in range(i + 1) if keys[j] == keys[i]) % 2**32 for i in UP]


class PartTest(unittest.TestCase):
    def test_written_out(self):
        for name, (pivot, keys, parted, below) in PART.items():
            with self.subTest(name):
                answer = [16, *parted, 1, below]
                self.assertEqual(lv_part(pivot, WORDS, keys), answer)
                self.assertEqual(lv_part(x=WORDS, keys=keys, pivot=pivot), answer)

    def test_words_are_not_looked_at(self):
        # The words are the other way round than their keys, and at the edges.
        self.assertEqual(lv_part(8, DOWN, UP), [16, *DOWN, 1, 8])
        self.assertEqual(lv_part(1, [TOP, 0] * 8, [0, 1] * 8), [16] + [TOP] * 8 + [0] * 8 + [1, 8])

    def test_many(self):
        pivots = [0, 1, 2, 5, HALF - 1, HALF, HALF + 1, TOP - 2, TOP]
        calls = []
        for i, (x, keys) in enumerate(zip(spread_rows(20, 21)[::-1], spread_rows(20, 22))):
            calls.append([pivots[i % len(pivots)], x, keys])
            calls.append([keys[i % 16], x, keys])
        answers = check_plain_answers(self, lv_part, calls)
        self.assertEqual(answers, [plainly_parted(*call) for call in calls])

    def test_one_list_as_both(self):
        for row in mixed_rows(40, 9):
            self.assertEqual(lv_part(4, row, row), plainly_parted(4, row, row))


class SumsTest(unittest.TestCase):
    def test_written_out(self):
        for name, (x, keys, sums) in SUMS.items():
            with self.subTest(name):
                self.assertEqual(lv_sums(x, keys), sums)
                self.assertEqual(lv_sums(x=x, keys=keys), sums)

    def test_many(self):
        calls = [list(pair) for pair in zip(spread_rows(20, 23)[::-1], spread_rows(20, 24))]
        answers = check_plain_answers(self, lv_sums, calls)
        self.assertEqual(answers, [plainly_summed(*call) for call in calls])
        self.assertEqual({len(answer) for answer in answers}, {16})

    def test_one_list_as_both(self):
        for row in mixed_rows(40, 5):
            self.assertEqual(lv_sums(row, row), plainly_summed(row, row))


if __name__ == "__main__":
    unittest.main()
