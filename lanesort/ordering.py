"""Places put in order by their keys."""


def sorted_by(places, keys):
    # sorted leaves places whose keys are the same as they stood: the earlier one stays first.
    return sorted(places, key=lambda place: keys[place])


def order_of(keys):
    """The keys' places in order."""
    return sorted_by(list(range(len(keys))), keys)


def inverse(places):
    """Where each place stands among them."""
    found = [0] * len(places)
    for at, place in enumerate(places):
        found[place] = at
    return found
