"""The calls of movedby: what a shift between two pictures costs, and which costs least."""

REFUSAL = -22
FURTHEST_REACH = 8
LONGEST_SIDE = 256


def cost(w, h, r, dx, dy, a, b):
    """Answers 0 and what the shift (dx, dy) costs, or a refusal alone."""
    if not sizes_are_right(w, h, r):
        return [REFUSAL]
    if not within_reach(r, dx) or not within_reach(r, dy):
        return [REFUSAL]
    return [0, shift_cost(w, h, r, dx, dy, a, b)]


def find(w, h, r, a, b):
    """Answers 0, dx, dy and the cost of the shift that costs least, or a refusal alone."""
    if not sizes_are_right(w, h, r):
        return [REFUSAL]
    first = min([rank(w, h, r, dx, dy, a, b) for dx, dy in shifts_within(r)])
    return [0, first[3], first[2], first[0]]


def sizes_are_right(w, h, r):
    return r <= FURTHEST_REACH and side_is_right(w, r) and side_is_right(h, r)


def side_is_right(side, r):
    return 2 * r + 1 <= side and side <= LONGEST_SIDE


def within_reach(r, step):
    return -r <= step and step <= r


def shift_cost(w, h, r, dx, dy, a, b):
    """Adds up the differences over the middle; sizes and shift must be right."""
    total = 0
    # The middle keeps r away from every side, so a shifted place never leaves b.
    for y in range(r, h - r):
        for x in range(r, w - r):
            total = total + abs(a[y * w + x] - b[(y + dy) * w + x + dx])
    return total


def shifts_within(r):
    shifts = []
    for dy in range(-r, r + 1):
        for dx in range(-r, r + 1):
            shifts.append((dx, dy))
    return shifts


def rank(w, h, r, dx, dy, a, b):
    """A shift that is to be found ahead of another has the lesser rank."""
    # Tuples are compared from the left: each number only settles what those before it leave even.
    return (shift_cost(w, h, r, dx, dy, a, b), dx * dx + dy * dy, dy, dx)
