"""Points 2 and 3: lv_moved and lv_earlier."""

import unittest

from helper import DOWN, HALF, TOP, UP, check_plain_answers, spread_rows
from lanesort.sixteen import lv_earlier, lv_moved

WORDS = [100 + i for i in UP]

# x, at, and what is answered, worked out by hand.
MOVED = {
    "all stay": (WORDS, UP, WORDS),
    "the other way round": (WORDS, DOWN, WORDS[::-1]),
    "a permutation that is not its own inverse": (
        WORDS,
        [3, 0, 1, 2, 7, 4, 5, 6, 12, 13, 14, 15, 8, 9, 10, 11],
        [101, 102, 103, 100, 105, 106, 107, 104, 112, 113, 114, 115, 108, 109, 110, 111],
    ),
    "two to each place, the last one stays": (
        WORDS,
        [0, 1, 2, 3, 4, 5, 6, 7, 0, 1, 2, 3, 4, 5, 6, 7],
        [108, 109, 110, 111, 112, 113, 114, 115] + [0] * 8,
    ),
    "two to one place, the other way round": (
        WORDS,
        [7, 6, 5, 4, 3, 2, 1, 0, 7, 6, 5, 4, 3, 2, 1, 0],
        [115, 114, 113, 112, 111, 110, 109, 108] + [0] * 8,
    ),
    "the last one stays though it is smaller": (
        [9, 5] + [1] * 14,
        [4, 4] + [15] * 14,
        [0, 0, 0, 0, 5] + [0] * 10 + [1],
    ),
    "the last one stays though it is 0": ([9, 0] + [1] * 14, [4, 4] + [15] * 14, [0] * 15 + [1]),
    "all to the first place": (WORDS, [0] * 16, [115] + [0] * 15),
    "all to the last place": (WORDS, [15] * 16, [0] * 15 + [115]),
    "modulo 16, from 16 on": (WORDS, [16 + i for i in DOWN], WORDS[::-1]),
    "modulo 16, up to the top": (WORDS, [TOP - i for i in UP], WORDS[::-1]),
    "16 is 0, 17 is 1, 4294967295 is 15, 2147483648 is 0": (
        WORDS,
        [16, 17, TOP, HALF] + [5] * 12,
        [103, 101, 0, 0, 0, 115] + [0] * 9 + [102],
    ),
    "words at the edges": (
        [0, TOP] * 8,
        [1, 0, 3, 2, 5, 4, 7, 6, 9, 8, 11, 10, 13, 12, 15, 14],
        [TOP, 0] * 8,
    ),
}

EARLIER = {
    "no two the same": (WORDS, [0] * 16),
    "all the same": ([7] * 16, UP),
    "all 0": ([0] * 16, UP),
    "all 4294967295": ([TOP] * 16, UP),
    "two, three and four, not side by side": (
        [5, 3, 5, 1, 3, 5, 1, 3, 9, 5, 2, 3, 8, 0, 9, 4],
        [0, 0, 1, 0, 1, 2, 1, 2, 0, 3, 0, 3, 0, 0, 1, 0],
    ),
    "the first and the last": ([6] + WORDS[1:15] + [6], [0] * 15 + [1]),
    "the edges in turn": ([0, TOP] * 8, [0, 0, 1, 1, 2, 2, 3, 3, 4, 4, 5, 5, 6, 6, 7, 7]),
    "the same but for the highest bit": (
        [0, HALF, 1, HALF + 1, TOP, HALF - 1, 0, HALF] + [2, HALF + 2] * 4,
        [0, 0, 0, 0, 0, 0, 1, 1, 0, 0, 1, 1, 2, 2, 3, 3],
    ),
}


def plainly_moved(x, at):
    answer = []
    for place in UP:
        there = [x[i] for i in UP if at[i] % 16 == place]
        answer.append(there[-1] if there else 0)
    return answer


def plainly_earlier(x):
    return [sum(1 for j in range(i) if x[j] == x[i]) for i in UP]


class MovedTest(unittest.TestCase):
    def test_written_out(self):
        for name, (x, at, answer) in MOVED.items():
            with self.subTest(name):
                self.assertEqual(lv_moved(x, at), answer)
                self.assertEqual(lv_moved(x=x, at=at), answer)

    def test_many(self):
        calls = [list(pair) for pair in zip(spread_rows(20, 1), spread_rows(20, 2)[::-1])]
        calls += [[x, at] for x, at, _ in MOVED.values()]
        answers = check_plain_answers(self, lv_moved, calls)
        self.assertEqual(answers, [plainly_moved(x, at) for x, at in calls])

    def test_one_list_as_both(self):
        for row in spread_rows(5, 3):
            self.assertEqual(lv_moved(row, row), plainly_moved(row, row))


class EarlierTest(unittest.TestCase):
    def test_written_out(self):
        for name, (x, answer) in EARLIER.items():
            with self.subTest(name):
                self.assertEqual(lv_earlier(x), answer)
                self.assertEqual(lv_earlier(x=x), answer)

    def test_many(self):
        calls = [[x] for x in spread_rows(20, 4)]
        answers = check_plain_answers(self, lv_earlier, calls)
        self.assertEqual(answers, [plainly_earlier(x) for [x] in calls])


if __name__ == "__main__":
    unittest.main()
