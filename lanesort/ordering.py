"""Places put in order by their keys."""


def sorted_by(places, keys):
    # sorted leaves places whose keys are the same as they stood: the earlier one stays first.
    return sorted(places, key=lambda place: keys[place])


def order_of(keys):
    """The keys' places in order."""
    return sorted_by(list(range(len(keys))), keys)


def inverse(places):
    """Where each place stands among them."""
    found = [0] * len(places)
    for at, place in enumerate(places):
        found[place] = at
    return found


def stretch_begins(keys):
    """Where the longest stretches in order begin."""
    return [row for row, key in enumerate(keys) if row == 0 or key < keys[row - 1]]


def counts_below(keys, bounds):
    """For each bound how many of the keys, which are in order, are below it."""
    counts = {}
    below = 0
    for bound in sorted(bounds):
        while below < len(keys) and keys[below] < bound:
            below += 1
        counts[bound] = below
    return [counts[bound] for bound in bounds]


def counts_not_above(keys, bounds):
    """For each bound how many of the keys, which are whole numbers in order, aren't above it."""
    return counts_below(keys, [bound + 1 for bound in bounds])
