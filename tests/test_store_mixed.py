"""Lists of calls of all pieces, in no order, against the plain reckoning."""

import unittest

from helper import ALL64, IN_ORDER, LARGEST, MOST, NUMBERS, TOP, Mixer, mixed_up, run, stretched
from reckoning import Reckoning

# What each call's arguments are: s a slot that is made, a one that is read, k a kind, and so on.
ARGUMENTS = {
    "lc_get": "aknn", "lc_drop": "a", "lc_look": "a", "lc_fill": "sknv", "lc_count": "sknvv",
    "lc_cast": "sako", "lc_compare": "saao", "lc_between": "savv", "lc_marks": "saaat",
    "lc_pick": "saa", "lc_lay": "saaa", "lc_choose": "saaa", "lc_from": "saa", "lc_to": "saaa",
    "lc_undo": "sa", "lc_slice": "saann", "lc_rearrange": "sao", "lc_order": "sb", "lc_sort": "aa",
    "lc_merge": "ssaa",
}
LINES = 4000


class Maker:
    """Makes calls that mostly fit: slots 0 to 4 have columns of few kinds and about as many rows."""

    def __init__(self, seed):
        self.mixer = Mixer(seed)
        self.kinds = [self.mixer.below(11), 2, 10, 2]
        self.size = self.mixer.below(7)

    def call(self):
        if self.mixer.below(3) == 0:
            return self.put()
        name = self.mixer.one_of(sorted(ARGUMENTS))
        return (name, *[getattr(self, letter)() for letter in ARGUMENTS[name]])

    def put(self):
        kind = self.mixer.one_of(self.kinds)
        size = self.size if self.mixer.below(5) else self.mixer.below(9)
        rows = mixed_up(kind, size, self.mixer)
        choice = self.mixer.below(4)
        if kind == 2 and choice:
            rows = [self.mixer.below(size + (choice == 3)) for _ in range(size)]
        if self.mixer.below(3) == 0:
            rows = sorted(rows, key=IN_ORDER[kind].index) if set(rows) <= set(IN_ORDER[kind]) else sorted(rows)
        if self.mixer.below(4) == 0:
            rows = sorted(set(rows), key=rows.index)
        return ("lc_put", self.mixer.below(5), kind, rows)

    def rarely(self, odd, usual):
        return self.mixer.one_of(odd) if self.mixer.below(40) == 0 else usual

    def s(self):
        return self.rarely([5, 15, 16, LARGEST], self.mixer.below(5))

    def a(self):
        return self.rarely([5, 15, 16, LARGEST], self.mixer.below(5))

    def k(self):
        return self.rarely([11, LARGEST], self.mixer.one_of(self.kinds + [self.mixer.below(11)]))

    def n(self):
        return self.rarely([MOST, MOST + 1, 131072, 131073, LARGEST], self.mixer.below(self.size + 2))

    def o(self):
        return self.rarely([9, LARGEST], self.mixer.below(self.mixer.one_of([2, 3, 5, 7, 9])))

    def t(self):
        return self.rarely([256, LARGEST], self.mixer.below(256))

    def v(self):
        return self.mixer.one_of([0, 1, 2, 5, 127, 128, 255, TOP, ALL64, self.mixer.below(2**64)])

    def b(self):
        longest = self.rarely([0, 6, 20], 1 + self.mixer.below(4))
        return [self.rarely([32, 255], self.mixer.below(5) + 16 * self.mixer.below(2)) for _ in range(longest)]


class MixedTest(unittest.TestCase):
    def test_all_calls_are_told_of(self):
        self.assertEqual(set(ARGUMENTS) | {"lc_open", "lc_put"}, set(NUMBERS))

    def test_lines(self):
        answered_well = dict.fromkeys(ARGUMENTS, 0)
        refusals = {}
        for seed in range(LINES):
            self.check_line(seed, answered_well, refusals)
        # The calls must fit often enough to tell something, and each refusal must come up.
        self.assertGreater(min(answered_well.values()), 50, answered_well)
        self.assertEqual(set(refusals), {-2, -3, -4, -5})

    def check_line(self, seed, answered_well, refusals):
        maker = Maker(seed)
        reckoning = Reckoning()
        calls = [maker.put() for _ in range(7)] + [maker.call() for _ in range(30)]
        calls = [look for call in calls for look in stretched(reckoning, call)]
        answered = run([call for call, _ in calls])
        for (call, expected), answer in zip(calls, answered):
            self.assertEqual(answer, expected, (seed, call))
            if expected[0] < 0:
                refusals[expected[0]] = True
            elif call[0] in answered_well:
                answered_well[call[0]] += 1


if __name__ == "__main__":
    unittest.main()
