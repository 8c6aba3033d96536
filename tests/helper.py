"""What several files of tests use."""

import contextlib
import io

from lanesort.store import answers

TOP = 4294967295
HALF = 2147483648
UP = list(range(16))
DOWN = list(range(15, -1, -1))


class Mixer:
    """Numbers in no order, the same ones at each run."""

    def __init__(self, seed):
        self.state = seed

    def below(self, bound):
        self.state = (self.state * 6364136223846793005 + 1442695040888963407) % 2**64
        return (self.state >> 20) % bound

    def one_of(self, choices):
        return choices[self.below(len(choices))]


def mixed_rows(how_many, bound, seed=12345):
    """Rows of sixteen below bound in no order."""
    mixer = Mixer(seed)
    return [[mixer.below(bound) for _ in UP] for _ in range(how_many)]


def spread_rows(how_many, seed):
    """Rows of sixteen over the whole range, with few and with many words that are the same."""
    rows = []
    for step, bound in enumerate((1, 2, 3, 7, 16, 40, 1000, TOP + 1)):
        rows += mixed_rows(how_many, bound, seed + step)
    rows += [[HALF - 3 + word for word in row] for row in mixed_rows(how_many, 6, seed + 8)]
    rows += [[TOP - word for word in row] for row in mixed_rows(how_many, 6, seed + 9)]
    return rows


def refuse_change(*_args, **_kwargs):
    raise RuntimeError("what was handed in is changed")


class FixedList(list):
    """A list that can't be changed, so that a change that is undone shows too."""

    append = extend = insert = pop = remove = clear = refuse_change
    sort = reverse = refuse_change
    __setitem__ = __delitem__ = __iadd__ = __imul__ = refuse_change


def check_whole_numbers(test, answer):
    test.assertIs(type(answer), list)
    test.assertTrue(all(type(number) is int for number in answer), answer)


def check_plain_answers(test, function, calls):
    """What holds of every function: each call is a list of its arguments. The answers are given back."""
    out = io.StringIO()
    with contextlib.redirect_stdout(out), contextlib.redirect_stderr(out):
        first_time = [function(*call) for call in calls]
        other_way = [function(*call) for call in reversed(calls)]
    test.assertEqual(out.getvalue(), "")
    test.assertEqual(other_way[::-1], first_time)
    for call, answer in zip(calls, first_time):
        check_whole_numbers(test, answer)
        check_one_call(test, function, call, answer)
    return first_time


def check_one_call(test, function, call, answer):
    before = [list(part) if isinstance(part, list) else part for part in call]
    again = function(*call)
    test.assertEqual(again, answer)
    test.assertEqual(call, before)
    fixed = [FixedList(part) if isinstance(part, list) else part for part in call]
    test.assertEqual(function(*fixed), answer)
    # A list that is changed afterwards must change neither what was handed in nor a later answer.
    again.clear()
    test.assertEqual(call, before)
    test.assertEqual(function(*call), answer)


NUMBERS = {
    "lc_open": 10, "lc_put": 11, "lc_get": 12, "lc_drop": 13, "lc_look": 14, "lc_fill": 15,
    "lc_count": 16, "lc_cast": 17, "lc_compare": 20, "lc_between": 21, "lc_marks": 22,
    "lc_pick": 30, "lc_lay": 31, "lc_choose": 32, "lc_from": 33, "lc_to": 34, "lc_undo": 35,
    "lc_slice": 36, "lc_rearrange": 37, "lc_order": 40, "lc_sort": 41, "lc_merge": 42,
    "lc_many": 43, "lc_best": 44, "lc_nth": 45, "lc_ranks": 46, "lc_classes": 47, "lc_earlier": 48,
    "lc_runs": 49, "lc_stretches": 50, "lc_swaps": 51, "lc_alike": 52, "lc_parts": 60, "lc_shares": 61,
    "lc_fold": 62, "lc_running": 63, "lc_tops": 64, "lc_seek": 70, "lc_near": 71, "lc_join": 72,
    "lc_band": 73, "lc_spans": 74, "lc_sets": 75,
}

MOST = 65536
LARGEST = 2147483647
ALL64 = 2**64 - 1
WIDTHS = [8, 16, 32, 64, 8, 16, 32, 64, 32, 64, 1]
WHOLE = range(8)
KINDS = range(11)

# Each kind's edges, written out in order.
IN_ORDER = {
    0: [0, 1, 127, 128, 254, 255],
    1: [0, 1, 255, 256, 32767, 32768, 65534, 65535],
    2: [0, 1, 65536, HALF - 1, HALF, TOP - 1, TOP],
    3: [0, 1, TOP, TOP + 1, 2**63 - 1, 2**63, 2**64 - 2, 2**64 - 1],
    4: [128, 129, 254, 255, 0, 1, 126, 127],
    5: [32768, 32769, 65534, 65535, 0, 1, 255, 256, 32766, 32767],
    6: [HALF, HALF + 1, TOP - 1, TOP, 0, 1, HALF - 2, HALF - 1],
    7: [2**63, 2**63 + 1, 2**64 - 2, 2**64 - 1, 0, 1, TOP, TOP + 1, 2**63 - 2, 2**63 - 1],
    8: [
        0xFFFFFFFF, 0xFFC00000, 0xFF800001, 0xFF800000, 0xFF7FFFFF, 0xBF800000, 0x80000001, 0x80000000,
        0x00000000, 0x00000001, 0x3F800000, 0x7F7FFFFF, 0x7F800000, 0x7F800001, 0x7FC00000, 0x7FFFFFFF,
    ],
    9: [
        0xFFFFFFFFFFFFFFFF, 0xFFF8000000000000, 0xFFF0000000000001, 0xFFF0000000000000,
        0xFFEFFFFFFFFFFFFF, 0xBFF0000000000000, 0x8000000000000001, 0x8000000000000000,
        0x0000000000000000, 0x0000000000000001, 0x3FF0000000000000, 0x7FEFFFFFFFFFFFFF,
        0x7FF0000000000000, 0x7FF0000000000001, 0x7FF8000000000000, 0x7FFFFFFFFFFFFFFF,
    ],
    10: [0, 1],
}


def mixed_up(kind, how_many, mixer):
    """Values of the kind's edges in no order, some of them the same."""
    return [mixer.one_of(IN_ORDER[kind]) for _ in range(how_many)]


def encode(calls):
    numbers = []
    for name, *arguments in calls:
        numbers.append(NUMBERS[name])
        for argument in arguments:
            if isinstance(argument, list):
                numbers += [len(argument), *argument]
            else:
                numbers.append(argument)
    return numbers


def decode(answered):
    parts = []
    place = 0
    while place < len(answered):
        end = place + 1 + answered[place]
        parts.append(answered[place + 1:end])
        place = end
    if place != len(answered):
        raise ValueError("the last answer is cut off")
    return parts


def run(calls):
    """The calls' answers, a list each."""
    return decode(answers(encode(calls)))


def slots_after(calls, slots=range(16)):
    """What lc_look and lc_get say behind the calls: for each slot its kind and rows, or None."""
    looks = run(calls + [("lc_look", slot) for slot in slots])[len(calls):]
    kept = [(slot, look[1], look[2]) for slot, look in zip(slots, looks) if look != [-3]]
    gets = [("lc_get", slot, kind, 0, rows) for slot, kind, rows in kept]
    found = dict.fromkeys(slots)
    for (slot, kind, _), answer in zip(kept, run(calls + gets)[len(calls):]):
        found[slot] = (kind, answer[1:])
    return found


def put_all(columns):
    """Calls that put columns, given as a dict of (kind, rows), into their slots."""
    return [("lc_put", slot, kind, rows) for slot, (kind, rows) in columns.items()]


def check_made(test, columns, call, made, answer=None):
    """What the call makes, given as a dict of (kind, rows); all other slots are as they were.

    What is answered is how many rows the first one made has, where nothing else is said.
    """
    if answer is None:
        answer = [len(next(iter(made.values()))[1])]
    calls = put_all(columns) + [call]
    test.assertEqual(run(calls)[-1], answer, (columns, call))
    expected = {slot: None for slot in range(16)} | columns | made
    test.assertEqual(slots_after(calls), expected, (columns, call))


def check_refused(test, columns, call, number):
    """The call is answered by the number alone, and changes nothing."""
    check_made(test, columns, call, {}, [number])


def stretched(reckoning, call):
    """The call, then looks into the slots that it is about, each with the answer that is reckoned."""
    answered = [(call, reckoning.answer(*call))]
    slots = {argument for argument in call[1:] if not isinstance(argument, list) and argument < 16}
    for slot in sorted(slots & set(reckoning.slots)):
        kind, rows = reckoning.slots[slot]
        look = ("lc_get", slot, kind, 0, len(rows))
        answered.append((look, reckoning.answer(*look)))
    return answered
