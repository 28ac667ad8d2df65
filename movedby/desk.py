"""The calls of movedby: what it costs to take one picture for another, shifted."""

REFUSAL = -22
FURTHEST_REACH = 8
LONGEST_SIDE = 256


def cost(w, h, r, dx, dy, a, b):
    """Answers 0 and what the shift (dx, dy) costs, or a refusal alone."""
    if not sizes_are_right(w, h, r):
        return [REFUSAL]
    if not within_reach(r, dx) or not within_reach(r, dy):
        return [REFUSAL]
    return [0, shift_cost(w, h, r, dx, dy, a, b)]


def sizes_are_right(w, h, r):
    return r <= FURTHEST_REACH and side_is_right(w, r) and side_is_right(h, r)


def side_is_right(side, r):
    return 2 * r + 1 <= side and side <= LONGEST_SIDE


def within_reach(r, step):
    return -r <= step and step <= r


def shift_cost(w, h, r, dx, dy, a, b):
    """Adds up the differences over the middle; sizes and shift must be right."""
    total = 0
    # The middle keeps r away from every side, so a shifted place never leaves b.
    for y in range(r, h - r):
        for x in range(r, w - r):
            total = total + abs(a[y * w + x] - b[(y + dy) * w + x + dx])
    return total
