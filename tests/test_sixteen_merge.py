"""Points 3 and 4: lv_first and lv_merge."""

import unittest

from helper import DOWN, HALF, TOP, UP, check_plain_answers, spread_rows
from lanesort.sixteen import lv_first, lv_merge

WORDS = [100 + i for i in UP]
S = [1000 + i for i in UP]
T = [2000 + i for i in UP]

FIRST = {
    "all different": (WORDS, 65535),
    "all the same": ([9] * 16, 1),
    "all 0": ([0] * 16, 1),
    "all 4294967295": ([TOP] * 16, 1),
    "word 0 again at the end": ([8] + WORDS[1:15] + [8], 32767),
    "each twice, side by side": ([i // 2 for i in UP], 0b0101010101010101),
    "each twice, not side by side": (UP[:8] * 2, 0b0000000011111111),
    "some the same": (
        [5, 3, 5, 1, 3, 5, 1, 3, 9, 5, 2, 3, 8, 0, 9, 4],
        0b1011010100001011,
    ),
    "the same but for the highest bit": (
        [0, HALF, TOP, HALF - 1] * 4,
        0b1111,
    ),
}

# a, b, then the merged keys and their tags: s is 1000 and on, t is 2000 and on.
MERGE = {
    "a below b, in order": (UP, [16 + i for i in UP], list(range(32)), S + T),
    "b below a, in order": ([16 + i for i in UP], UP, list(range(32)), T + S),
    "the other way round, both": (
        [31 - i for i in UP],
        DOWN,
        list(range(32)),
        T[::-1] + S[::-1],
    ),
    "a's and b's in turn": (
        [2 * i for i in UP],
        [2 * i + 1 for i in UP],
        list(range(32)),
        [tag for pair in zip(S, T) for tag in pair],
    ),
    "all the same": ([7] * 16, [7] * 16, [7] * 32, S + T),
    "the same between a and b": (
        UP,
        UP,
        [key for i in UP for key in (i, i)],
        [tag for pair in zip(S, T) for tag in pair],
    ),
    "the same within a, within b and between": (
        [2, 1, 2, 1] + [9] * 12,
        [1, 2, 1, 2] + [0] * 12,
        [0] * 12 + [1] * 4 + [2] * 4 + [9] * 12,
        T[4:] + [1001, 1003, 2000, 2002, 1000, 1002, 2001, 2003] + S[4:],
    ),
    "both sides of 2147483648, and the edges": (
        [HALF, HALF - 1, 0, TOP] + [HALF] * 12,
        [TOP, 0, HALF - 1, HALF] + [HALF + 1] * 12,
        [0, 0, HALF - 1, HALF - 1] + [HALF] * 14 + [HALF + 1] * 12 + [TOP, TOP],
        [1002, 2001, 1001, 2002, 1000] + S[4:] + [2003] + T[4:] + [1003, 2000],
    ),
}


def counted_places(keys):
    """Where each key goes, without any sorting: how many keys come before it."""
    return [
        sum(1 for j, other in enumerate(keys) if (other, j) < (key, i)) for i, key in enumerate(keys)
    ]


def plainly_merged(a, s, b, t):
    keys = [0] * 32
    tags = [0] * 32
    for place, key, tag in zip(counted_places(a + b), a + b, s + t):
        keys[place] = key
        tags[place] = tag
    return [16, *keys[:16], 16, *keys[16:], 32, *tags]


class FirstTest(unittest.TestCase):
    def test_written_out(self):
        for name, (x, number) in FIRST.items():
            with self.subTest(name):
                self.assertEqual(lv_first(x), [number])
                self.assertEqual(lv_first(x=x), [number])

    def test_many(self):
        calls = [[x] for x in spread_rows(20, 11)]
        answers = check_plain_answers(self, lv_first, calls)
        expected = [[sum(1 << x.index(word) for word in set(x))] for [x] in calls]
        self.assertEqual(answers, expected)


class MergeTest(unittest.TestCase):
    def test_written_out(self):
        for name, (a, b, keys, tags) in MERGE.items():
            with self.subTest(name):
                answer = [16, *keys[:16], 16, *keys[16:], 32, *tags]
                self.assertEqual(lv_merge(a, S, b, T), answer)
                self.assertEqual(lv_merge(a=a, s=S, b=b, t=T), answer)

    def test_tags_do_not_order(self):
        # The tags are the other way round: were they looked at, keys that are the same would turn.
        answer = lv_merge([4] * 16, T[::-1], [4] * 16, S[::-1])
        self.assertEqual(answer[35:], T[::-1] + S[::-1])

    def test_tags_at_the_edges(self):
        answer = lv_merge(UP, [TOP] * 16, UP, [0] * 16)
        self.assertEqual(answer[34:], [32] + [TOP, 0] * 16)

    def test_many(self):
        calls = [
            list(call)
            for call in zip(
                spread_rows(8, 12), spread_rows(8, 13), spread_rows(8, 14), spread_rows(8, 15)[::-1]
            )
        ]
        calls += [[a, S, a, T] for a in spread_rows(3, 16)]
        answers = check_plain_answers(self, lv_merge, calls)
        self.assertEqual(answers, [plainly_merged(*call) for call in calls])
        self.assertEqual({len(answer) for answer in answers}, {67})

    def test_one_list_as_all(self):
        for row in spread_rows(2, 17):
            self.assertEqual(lv_merge(row, row, row, row), plainly_merged(row, row, row, row))


if __name__ == "__main__":
    unittest.main()
