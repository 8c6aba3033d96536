"""lanesort.store.answers as a whole: lists of calls, and the answers' form."""

import unittest

from helper import MOST, TOP, FixedList, check_plain_answers, decode, encode, run
from lanesort.store import answers

EXAMPLE = [
    ("lc_put", 0, 6, [5, TOP, 3, 0]),
    ("lc_look", 0),
    ("lc_order", 1, [0]),
    ("lc_get", 1, 2, 0, 4),
    ("lc_get", 1, 2, 0, 5),
    ("lc_drop", 0),
    ("lc_drop", 0),
    ("lc_open",),
    ("lc_look", 1),
]


class AnswersTest(unittest.TestCase):
    def test_empty_list(self):
        self.assertEqual(check_plain_answers(self, answers, [[[]]]), [[]])
        self.assertIsNot(answers([]), answers([]))

    def test_numbers_as_they_are_handed_in(self):
        calls = [11, 0, 6, 4, 5, TOP, 3, 0, 14, 0, 40, 1, 1, 0, 12, 1, 2, 0, 4]
        calls += [12, 1, 2, 0, 5, 13, 0, 13, 0, 10, 14, 1]
        self.assertEqual(encode(EXAMPLE), calls)
        answered = [1, 4, 3, 0, 6, 4, 1, 4, 5, 0, 1, 3, 2, 0, 1, -5, 1, 0, 1, -3, 1, 0, 1, -3]
        self.assertEqual(answers(calls), answered)
        self.assertEqual(answers(calls=calls), answered)

    def test_one_call(self):
        self.assertEqual(answers([10]), [1, 0])
        self.assertEqual(answers([14, 0]), [1, -3])
        self.assertEqual(answers([14, 2147483647]), [1, -2])
        self.assertEqual(answers([11, 3, 0, 0]), [1, 0])

    def test_calls_are_carried_out_in_order(self):
        calls = [("lc_put", 0, 0, [1]), ("lc_put", 0, 0, [1, 2]), ("lc_look", 0), ("lc_open",), ("lc_look", 0)]
        calls += [("lc_put", 0, 1, []), ("lc_look", 0)]
        self.assertEqual(run(calls), [[1], [2], [0, 0, 2], [0], [-3], [0], [0, 1, 0]])

    def test_three_hundred_calls(self):
        calls = []
        expected = []
        for step in range(100):
            calls += [("lc_fill", step % 16, 3, step, step), ("lc_look", step % 16), ("lc_get", step % 16, 3, step, 0)]
            expected += [[step], [0, 3, step], [0]]
        self.assertEqual(len(calls), 300)
        self.assertEqual(run(calls), expected)

    def test_answers_are_plain_and_nothing_is_kept(self):
        line = encode(EXAMPLE)
        others = [[10], [14, 0], [14, 1], [12, 1, 2, 0, 4], encode(EXAMPLE[:4]), []]
        check_plain_answers(self, answers, [[line]] + [[other] for other in others] + [[line]])

    def test_whole_numbers_where_marks_are_made(self):
        calls = [("lc_put", 0, 8, [0, 1 << 31]), ("lc_compare", 1, 0, 0, 1), ("lc_between", 2, 0, 0, 0)]
        calls += [("lc_marks", 3, 1, 1, 2, 128), ("lc_cast", 4, 3, 10, 0), ("lc_cast", 5, 4, 0, 1)]
        calls += [("lc_put", 6, 7, [0, 1 << 63]), ("lc_cast", 6, 6, 10, 0)]
        calls += [("lc_get", slot, 10, 0, 2) for slot in (1, 2, 3, 4, 6)] + [("lc_get", 5, 0, 0, 2)]
        [answered] = check_plain_answers(self, answers, [[encode(calls)]])
        self.assertEqual(decode(answered)[-6:], [[0, 1, 1], [0, 1, 0], [0, 1, 0], [0, 1, 0], [0, 0, 1], [0, 255, 0]])

    def test_a_column_is_not_the_list_that_was_handed_in(self):
        line = [11, 0, 0, 2, 7, 8, 12, 0, 0, 0, 2, 37, 0, 0, 0, 12, 0, 0, 0, 2]
        first = answers(FixedList(line))
        self.assertEqual(first, [1, 2, 3, 0, 7, 8, 1, 2, 3, 0, 8, 7])

    def test_columns_made_of_one_another_stay_apart(self):
        calls = [("lc_put", 0, 10, [1, 0, 1]), ("lc_cast", 1, 0, 10, 0), ("lc_slice", 2, 0, 0, 0, 3)]
        calls += [("lc_put", 3, 2, [2, 0, 1]), ("lc_to", 0, 0, 3, 0), ("lc_sort", 2, 3), ("lc_put", 1, 0, [])]
        calls += [("lc_get", 0, 10, 0, 3), ("lc_get", 2, 10, 0, 3), ("lc_get", 3, 2, 0, 3), ("lc_look", 1)]
        self.assertEqual(run(calls)[7:], [[0, 0, 1, 1], [0, 0, 1, 1], [0, 0, 2, 1], [0, 0, 0]])

    def test_many_numbers(self):
        calls = [("lc_count", 0, 3, MOST, TOP, TOP)] + [("lc_get", 0, 3, 0, MOST)] * 100
        answered = answers(encode(calls))
        self.assertEqual(len(answered), 2 + 100 * (MOST + 2))
        self.assertEqual(answered[-1], TOP * MOST)


if __name__ == "__main__":
    unittest.main()
