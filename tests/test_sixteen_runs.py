"""Point 6: lv_runs."""

import unittest

from helper import DOWN, HALF, TOP, UP, check_plain_answers, spread_rows
from lanesort.sixteen import lv_runs

RUNS = {
    "no two neighbours the same": (DOWN, UP),
    "the same again and again, but no neighbours": ([4, 9] * 8, UP),
    "all the same": ([7] * 16, [0] * 16),
    "all 0": ([0] * 16, [0] * 16),
    "all 4294967295": ([TOP] * 16, [0] * 16),
    "runs of one to five": (
        [3, 8, 8, 1, 1, 1, 6, 6, 6, 6, 2, 2, 2, 2, 2, 9],
        [0, 1, 1, 3, 3, 3, 6, 6, 6, 6, 10, 10, 10, 10, 10, 15],
    ),
    "the same word again in a later run": (
        [5, 5, 0, 5, 5, 5, 0, 0, 5, 0, 0, 0, 0, 5, 5, 5],
        [0, 0, 2, 3, 3, 3, 6, 6, 8, 9, 9, 9, 9, 13, 13, 13],
    ),
    "the last two": (UP[:15] + [14], UP[:15] + [14]),
    "the first two": ([1] + UP[1:], [0, 0] + UP[2:]),
    "the edges": ([0] * 4 + [TOP] * 4 + [0] * 4 + [TOP] * 4, [0] * 4 + [4] * 4 + [8] * 4 + [12] * 4),
    "the same but for the highest bit": ([0, HALF] * 4 + [HALF - 1, TOP] * 4, UP),
}


def plainly_run(x):
    answer = []
    for i in UP:
        begin = i
        while begin > 0 and x[begin - 1] == x[i]:
            begin -= 1
        answer.append(begin)
    return answer


class RunsTest(unittest.TestCase):
    def test_written_out(self):
        for name, (x, answer) in RUNS.items():
            with self.subTest(name):
                self.assertEqual(lv_runs(x), answer)
                self.assertEqual(lv_runs(x=x), answer)

    def test_many(self):
        calls = [[x] for x in spread_rows(20, 31)]
        answers = check_plain_answers(self, lv_runs, calls)
        self.assertEqual(answers, [plainly_run(x) for [x] in calls])
        self.assertEqual({len(answer) for answer in answers}, {16})


if __name__ == "__main__":
    unittest.main()
