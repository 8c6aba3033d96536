"""Lists of calls of all pieces, in no order, against the plain reckoning."""

import unittest

from helper import ALL64, IN_ORDER, LARGEST, MOST, NUMBERS, TOP, Mixer, mixed_up, run, stretched
from reckoning import Reckoning

# What each call's arguments are: s and a slots, x one of marks, g one of row numbers, k a kind, and so on.
ARGUMENTS = {
    "lc_get": "aknn", "lc_drop": "a", "lc_look": "a", "lc_fill": "skmv", "lc_count": "skmvv",
    "lc_cast": "sako", "lc_compare": "saao", "lc_between": "savv", "lc_marks": "sxxxt",
    "lc_pick": "sax", "lc_lay": "saxa", "lc_choose": "sxaa", "lc_from": "sag", "lc_to": "saga",
    "lc_undo": "sg", "lc_slice": "saann", "lc_rearrange": "sao", "lc_order": "sb", "lc_sort": "aa",
    "lc_merge": "ssaa", "lc_many": "ssag", "lc_best": "san", "lc_nth": "an", "lc_ranks": "sao",
    "lc_classes": "ssa", "lc_earlier": "sa", "lc_runs": "ssa", "lc_stretches": "sa", "lc_swaps": "a",
    "lc_alike": "aa", "lc_parts": "ssaa", "lc_shares": "san", "lc_fold": "sgmao", "lc_running": "saao",
    "lc_tops": "sgnan", "lc_seek": "saa", "lc_near": "saao", "lc_join": "ssaao", "lc_band": "ssaaw",
    "lc_spans": "ssaaa", "lc_sets": "saao",
}
LINES = 8000


class Maker:
    """Makes calls that often fit: columns of few kinds and about as many rows, slot 4 marks, 5 row numbers."""

    def __init__(self, seed):
        self.mixer = Mixer(seed)
        self.kinds = [self.mixer.below(11), self.mixer.below(11), 2]
        self.size = self.mixer.below(7)

    def call(self):
        if self.mixer.below(3) == 0:
            return self.put()
        name = self.mixer.one_of(sorted(ARGUMENTS))
        return (name, *[getattr(self, letter)() for letter in ARGUMENTS[name]])

    def put(self):
        slot = self.mixer.below(6)
        kind = {4: 10, 5: 2}.get(slot, self.mixer.one_of(self.kinds))
        size = self.size if self.mixer.below(5) else self.mixer.below(9)
        rows = mixed_up(kind, size, self.mixer)
        choice = self.mixer.below(4)
        if kind == 2 and choice:
            rows = [self.mixer.below(size + (choice == 3)) for _ in range(size)]
        if self.mixer.below(3) == 0:
            rows = sorted(rows, key=IN_ORDER[kind].index) if set(rows) <= set(IN_ORDER[kind]) else sorted(rows)
        if self.mixer.below(4) == 0:
            rows = sorted(set(rows), key=rows.index)
        return ("lc_put", slot, kind, rows)

    def rarely(self, odd, usual):
        return self.mixer.one_of(odd) if self.mixer.below(40) == 0 else usual

    def s(self):
        return self.rarely([6, 15, 16, LARGEST], self.mixer.below(6))

    def a(self):
        return self.s()

    def x(self):
        return self.mixer.one_of([4, 4, 4, self.s()])

    def g(self):
        return self.mixer.one_of([5, 5, 5, self.s()])

    def k(self):
        return self.rarely([11, LARGEST], self.mixer.one_of(self.kinds + [self.mixer.below(11)]))

    def n(self):
        return self.rarely([MOST, MOST + 1, 131072, 131073, LARGEST], self.mixer.below(self.size + 2))

    def m(self):
        # No column is made so large that the plain reckoning would take long.
        return self.rarely([MOST + 1, LARGEST], self.mixer.below(self.size + 2))

    def o(self):
        return self.rarely([9, LARGEST], self.mixer.below(self.mixer.one_of([2, 3, 5, 7, 9])))

    def t(self):
        return self.rarely([256, LARGEST], self.mixer.below(256))

    def v(self):
        return self.mixer.one_of([0, 1, 2, 5, 127, 128, 255, TOP, ALL64, self.mixer.below(2**64)])

    def w(self):
        return self.mixer.one_of([0, 1, 2, 3, self.v()])

    def b(self):
        longest = self.rarely([0, 6, 20], 1 + self.mixer.below(4))
        return [self.rarely([32, 255], self.mixer.below(5) + 16 * self.mixer.below(2)) for _ in range(longest)]


class MixedTest(unittest.TestCase):
    def test_all_calls_are_told_of(self):
        self.assertEqual(set(ARGUMENTS) | {"lc_open", "lc_put"}, set(NUMBERS))

    def test_lines(self):
        answered_well = dict.fromkeys(ARGUMENTS, 0)
        refusals = {}
        for seed in range(LINES):
            self.check_line(seed, answered_well, refusals)
        # The calls must fit often enough to tell something, and each refusal must come up.
        self.assertGreater(min(answered_well.values()), 100, answered_well)
        self.assertEqual(set(refusals), {-2, -3, -4, -5})

    def check_line(self, seed, answered_well, refusals):
        maker = Maker(seed)
        reckoning = Reckoning()
        calls = [maker.put() for _ in range(9)] + [maker.call() for _ in range(30)]
        calls = [look for call in calls for look in stretched(reckoning, call)]
        answered = run([call for call, _ in calls])
        for (call, expected), answer in zip(calls, answered):
            self.assertEqual(answer, expected, (seed, call))
            if expected[0] < 0:
                refusals[expected[0]] = True
            elif call[0] in answered_well:
                answered_well[call[0]] += 1


if __name__ == "__main__":
    unittest.main()
