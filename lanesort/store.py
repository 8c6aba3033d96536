"""A line of calls about one store, and what they answer."""

from lanesort.basics import BASIC_CALLS
from lanesort.columns import Store
from lanesort.groups import GROUPING_CALLS
from lanesort.matches import MATCHING_CALLS
from lanesort.moves import MOVING_CALLS
from lanesort.orders import ORDERING_CALLS
from lanesort.ranks import RANKING_CALLS
from lanesort.refusals import KindsDontFit, NoColumn, OutOfRange, RowsDontFit, TooManyRows

# lc_put and lc_order: behind their whole numbers stands a list, with how many numbers it has ahead.
WITH_A_LIST = (11, 40)


class Line:
    """A line of calls, read from its beginning on."""

    def __init__(self, numbers):
        self.numbers = numbers
        self.place = 0

    def is_read(self):
        return self.place == len(self.numbers)

    def take(self, how_many):
        begin = self.place
        self.place = begin + how_many
        return self.numbers[begin:self.place]

    def take_one(self):
        return self.take(1)[0]


def answers(calls):
    """For each call, in order: how many numbers are answered, and these."""
    store = Store()
    line = Line(calls)
    answered = []
    while not line.is_read():
        answer = answer_next(store, line)
        answered.append(len(answer))
        answered.extend(answer)
    return answered


def answer_next(store, line):
    number = line.take_one()
    call = call_of(number)
    arguments = line.take(call[1])
    if number in WITH_A_LIST:
        arguments.append(line.take(line.take_one()))
    try:
        return carried_out(store, call[0], arguments)
    except OutOfRange:
        return [-2]
    except NoColumn:
        return [-3]
    except KindsDontFit:
        return [-4]
    except RowsDontFit:
        return [-5]
    except TooManyRows:
        return [-1]


def call_of(number):
    """The function that carries the call out, and how many whole numbers it takes."""
    if number in BASIC_CALLS:
        return BASIC_CALLS[number]
    if number in MOVING_CALLS:
        return MOVING_CALLS[number]
    if number in ORDERING_CALLS:
        return ORDERING_CALLS[number]
    if number in RANKING_CALLS:
        return RANKING_CALLS[number]
    if number in GROUPING_CALLS:
        return GROUPING_CALLS[number]
    return MATCHING_CALLS[number]


def carried_out(store, function, x):
    if len(x) == 0:
        return function(store)
    if len(x) == 1:
        return function(store, x[0])
    if len(x) == 2:
        return function(store, x[0], x[1])
    if len(x) == 3:
        return function(store, x[0], x[1], x[2])
    if len(x) == 4:
        return function(store, x[0], x[1], x[2], x[3])
    return function(store, x[0], x[1], x[2], x[3], x[4])
