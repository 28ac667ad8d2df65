"""Promise 2: which of several shifts that cost the same is found."""

import itertools
import unittest

from movedby.desk import find
from pictures import cheap, nearest, picture, plain, shifts


class Even(unittest.TestCase):

    def check(self, some, expected, price=0):
        """Of these shifts, all at one price and the others dearer, the expected one is found."""
        with self.subTest(some=some, price=price):
            self.assertEqual(find(*cheap(dict.fromkeys(some, price))), [0, *expected, price])

    def test_left_and_right(self):
        for step in range(1, 9):
            self.check([(step, 0), (-step, 0)], (-step, 0))
        self.check([(1, 2), (-1, 2)], (-1, 2))
        self.check([(1, -2), (-1, -2)], (-1, -2), 254)

    def test_up_and_down(self):
        for step in range(1, 9):
            self.check([(0, step), (0, -step)], (0, -step))
        self.check([(2, 1), (2, -1)], (2, -1))
        self.check([(-2, 1), (-2, -1)], (-2, -1), 254)

    def test_four_corners_of_a_ring(self):
        for step in range(1, 9):
            corners = [(dx, dy) for dx in (step, -step) for dy in (step, -step)]
            self.check(corners, (-step, -step))
            self.check([(step, step), (step, -step), (-step, step)], (step, -step))
            self.check([(step, step), (-step, step)], (-step, step))
            self.check([(step, -step), (-step, step)], (step, -step))

    def test_four_sides_of_a_ring(self):
        for step in range(1, 9):
            self.check([(step, 0), (0, step), (-step, 0), (0, -step)], (0, -step))
            self.check([(step, 0), (0, step), (-step, 0)], (-step, 0))
            self.check([(step, 0), (0, step)], (step, 0))

    def test_dy_goes_before_dx(self):
        self.check([(-1, 0), (0, -1)], (0, -1))
        self.check([(-1, 0), (0, 1)], (-1, 0))
        self.check([(1, -2), (-2, -1)], (1, -2))
        self.check([(2, -1), (-1, 2)], (2, -1))
        self.check([(-2, 1), (1, -2), (2, -1), (-1, -2)], (-1, -2))

    def test_far_against_near(self):
        self.check([(8, 8), (0, 0)], (0, 0))
        self.check([(-8, -8), (1, 1)], (1, 1))
        self.check([(0, -2), (1, 1)], (1, 1))
        self.check([(-1, -1), (1, 0)], (1, 0))
        self.check([(-1, -1), (0, 1)], (0, 1))

    def test_far_is_by_squares(self):
        # Fewer steps in all, but farther.
        self.check([(0, -3), (2, 2)], (2, 2))
        self.check([(-3, 0), (2, 2)], (2, 2))
        # A longer step one way, but nearer.
        self.check([(-3, -3), (0, 4)], (0, 4))
        self.check([(-3, -3), (4, 1)], (4, 1))
        # As far in three ways.
        self.check([(5, 0), (-3, 4), (-4, 3)], (5, 0))
        self.check([(5, 5), (-1, 7), (7, 1)], (7, 1))
        self.check([(8, 1), (-7, 4), (4, -7), (1, 8)], (4, -7))

    def test_every_two(self):
        for pair in itertools.combinations(shifts(3), 2):
            self.check(pair, nearest(pair))

    def test_any_of_the_nearest_nine(self):
        for many in range(1, 10):
            for some in itertools.combinations(shifts(1), many):
                self.check(some, nearest(some), 7)

    def test_all(self):
        for r in range(9):
            w, h = 2 * r + 3, 2 * r + 2
            for a, b in ((0, 0), (255, 255), (60, 61), (255, 0)):
                with self.subTest(r=r, a=a, b=b):
                    self.assertEqual(find(w, h, r, plain(w, h, a), plain(w, h, b)), [0, 0, 0, 6 * abs(a - b)])

    def test_cheaper_goes_before_nearer(self):
        for far in ((8, 8), (-8, 8), (8, -8), (-8, -8), (1, 1), (0, 1), (1, 0), (0, -1), (-1, 0)):
            with self.subTest(far=far):
                self.assertEqual(find(*cheap({(0, 0): 1, far: 0})), [0, *far, 0])
                self.assertEqual(find(*cheap({(0, 0): 254, far: 253})), [0, *far, 253])

    def test_cheaper_goes_before_either_side(self):
        for better, worse in (((1, 0), (-1, 0)), ((0, 1), (0, -1)), ((1, 1), (-1, -1)), ((-1, 0), (0, -1))):
            with self.subTest(better=better, worse=worse):
                self.assertEqual(find(*cheap({better: 3, worse: 4})), [0, *better, 3])


class Patterns(unittest.TestCase):
    """Pictures of more than one place in the middle, that look alike after several shifts."""

    SIZES = ((3, 3, 1), (6, 7, 1), (9, 8, 2), (12, 11, 3))

    def check(self, grey, other, dx, dy):
        for w, h, r in self.SIZES:
            with self.subTest(w=w, h=h, r=r):
                self.assertEqual(find(w, h, r, picture(w, h, grey), picture(w, h, other)), [0, dx, dy, 0])

    def test_upright_stripes(self):
        self.check(lambda x, y: x % 2 * 255, lambda x, y: (x + 1) % 2 * 255, -1, 0)

    def test_lying_stripes(self):
        self.check(lambda x, y: y % 2 * 255, lambda x, y: (y + 1) % 2 * 255, 0, -1)

    def test_draughts(self):
        self.check(lambda x, y: (x + y) % 2 * 255, lambda x, y: (x + y + 1) % 2 * 255, 0, -1)

    def test_slanted_stripes(self):
        self.check(lambda x, y: (x + y) % 3 * 100, lambda x, y: (x + y - 1) % 3 * 100, 1, 0)
        self.check(lambda x, y: (x + y) % 3 * 100, lambda x, y: (x + y + 1) % 3 * 100, 0, -1)

    def test_nothing_has_moved(self):
        self.check(lambda x, y: x % 2 * 255, lambda x, y: x % 2 * 255, 0, 0)
        self.check(lambda x, y: y % 2 * 255, lambda x, y: y % 2 * 255, 0, 0)
        self.check(lambda x, y: (x + y) % 2 * 255, lambda x, y: (x + y) % 2 * 255, 0, 0)


if __name__ == "__main__":
    unittest.main()
