"""Pictures for the tests, and a second way to work out a cost and the shift that is found."""


def shifts(r):
    """Every shift from -r to r each way."""
    return [(dx, dy) for dy in range(-r, r + 1) for dx in range(-r, r + 1)]


def picture(w, h, grey):
    """The picture whose grey at (x, y) is grey(x, y)."""
    return [grey(x, y) for y in range(h) for x in range(w)]


def plain(w, h, grey):
    """One grey everywhere; empty where the document hands in no greys."""
    if 1 <= w <= 256 and 1 <= h <= 256:
        return [grey] * (w * h)
    return []


def lit(w, h, x, y):
    """Black but for one white place."""
    greys = [0] * (w * h)
    greys[y * w + x] = 255
    return greys


def speckled(w, h, seed):
    """Greys in no order that a shift could mistake for another."""
    state = seed * 2654435761 + 12345
    greys = []
    for _ in range(w * h):
        state = (state * 6364136223846793005 + 1442695040888963407) % 2 ** 64
        greys.append(state >> 56)
    return greys


def rows(w, greys):
    return [greys[k:k + w] for k in range(0, len(greys), w)]


def mirrored(w, greys):
    """Left for right."""
    return [grey for row in rows(w, greys) for grey in reversed(row)]


def shifted(w, h, dx, dy, greys, beyond):
    """The picture with the grey of (x, y) at (x + dx, y + dy); beyond where none came."""
    def grey(x, y):
        if 0 <= x - dx < w and 0 <= y - dy < h:
            return greys[(y - dy) * w + x - dx]
        return beyond
    return picture(w, h, grey)


def cut(w, h, r, dx, dy, greys):
    """The rows of the part as large as the middle, moved by (dx, dy)."""
    part = rows(w, greys)[r + dy:h - r + dy]
    return [row[r + dx:w - r + dx] for row in part]


def cost_by_rows(w, h, r, dx, dy, a, b):
    """What the shift costs, by laying two cut-out parts on one another."""
    ours = cut(w, h, r, 0, 0, a)
    theirs = cut(w, h, r, dx, dy, b)
    return sum(max(p, q) - min(p, q)
               for row, other in zip(ours, theirs, strict=True)
               for p, q in zip(row, other, strict=True))


# What find is to go by, one rule after the other.
RULES = (lambda dx, dy: dx * dx + dy * dy, lambda dx, dy: dy, lambda dx, dy: dx)


def nearest(some):
    """Of shifts that cost the same the one that is to be found: each rule leaves out some."""
    left = list(some)
    for rule in RULES:
        least = min(rule(dx, dy) for dx, dy in left)
        left = [(dx, dy) for dx, dy in left if rule(dx, dy) == least]
    (only,) = left
    return only


def found_by_rows(w, h, r, a, b):
    """What find is to answer, by costs of cut-out parts."""
    costs = {(dx, dy): cost_by_rows(w, h, r, dx, dy, a, b) for dx, dy in shifts(r)}
    least = min(costs.values())
    dx, dy = nearest([shift for shift, price in costs.items() if price == least])
    return [0, dx, dy, least]


def cheap(costs):
    """Every shift of a reach costs 255 but those in the table; as arguments for find.

    The middle is one black place, so that each grey of b is what the shift to it costs.
    """
    r = max(1, *[abs(step) for shift in costs for step in shift])
    side = 2 * r + 1
    b = picture(side, side, lambda x, y: costs.get((x - r, y - r), 255))
    return side, side, r, plain(side, side, 0), b
