"""What several files of tests use."""

import contextlib
import io

TOP = 4294967295
HALF = 2147483648
UP = list(range(16))
DOWN = list(range(15, -1, -1))


class Mixer:
    """Numbers in no order, the same ones at each run."""

    def __init__(self, seed):
        self.state = seed

    def below(self, bound):
        self.state = (self.state * 6364136223846793005 + 1442695040888963407) % 2**64
        return (self.state >> 20) % bound

    def one_of(self, choices):
        return choices[self.below(len(choices))]


def mixed_rows(how_many, bound, seed=12345):
    """Rows of sixteen below bound in no order."""
    mixer = Mixer(seed)
    return [[mixer.below(bound) for _ in UP] for _ in range(how_many)]


def spread_rows(how_many, seed):
    """Rows of sixteen over the whole range, with few and with many words that are the same."""
    rows = []
    for step, bound in enumerate((1, 2, 3, 7, 16, 40, 1000, TOP + 1)):
        rows += mixed_rows(how_many, bound, seed + step)
    rows += [[HALF - 3 + word for word in row] for row in mixed_rows(how_many, 6, seed + 8)]
    rows += [[TOP - word for word in row] for row in mixed_rows(how_many, 6, seed + 9)]
    return rows


def refuse_change(*_args, **_kwargs):
    raise RuntimeError("what was handed in is changed")


class FixedList(list):
    """A list that can't be changed, so that a change that is undone shows too."""

    append = extend = insert = pop = remove = clear = refuse_change
    sort = reverse = refuse_change
    __setitem__ = __delitem__ = __iadd__ = __imul__ = refuse_change


def check_whole_numbers(test, answer):
    test.assertIs(type(answer), list)
    test.assertTrue(all(type(number) is int for number in answer), answer)


def check_plain_answers(test, function, calls):
    """What holds of every function: each call is a list of its arguments. The answers are given back."""
    out = io.StringIO()
    with contextlib.redirect_stdout(out), contextlib.redirect_stderr(out):
        first_time = [function(*call) for call in calls]
        other_way = [function(*call) for call in reversed(calls)]
    test.assertEqual(out.getvalue(), "")
    test.assertEqual(other_way[::-1], first_time)
    for call, answer in zip(calls, first_time):
        check_whole_numbers(test, answer)
        check_one_call(test, function, call, answer)
    return first_time


def check_one_call(test, function, call, answer):
    before = [list(part) if isinstance(part, list) else part for part in call]
    again = function(*call)
    test.assertEqual(again, answer)
    test.assertEqual(call, before)
    fixed = [FixedList(part) if isinstance(part, list) else part for part in call]
    test.assertEqual(function(*fixed), answer)
    # A list that is changed afterwards must change neither what was handed in nor a later answer.
    again.clear()
    test.assertEqual(call, before)
    test.assertEqual(function(*call), answer)
