"""Promise 1: -22, alone, where the sizes or the shift aren't right."""

import unittest

from movedby.desk import cost
from pictures import plain

WHOLE_MOST = 4294967295
SIGN_LEAST = -2147483648
SIGN_MOST = 2147483647


def ask(w, h, r, dx, dy):
    return cost(w, h, r, dx, dy, plain(w, h, 3), plain(w, h, 5))


class Refusals(unittest.TestCase):

    def refused(self, w, h, r, dx=0, dy=0):
        with self.subTest(w=w, h=h, r=r, dx=dx, dy=dy):
            self.assertEqual(ask(w, h, r, dx, dy), [-22])

    def taken(self, w, h, r, dx=0, dy=0):
        with self.subTest(w=w, h=h, r=r, dx=dx, dy=dy):
            self.assertEqual(ask(w, h, r, dx, dy), [0, 2 * (w - 2 * r) * (h - 2 * r)])

    def test_reach_above_eight(self):
        self.taken(256, 256, 8)
        for r in (9, 10, 16, 127, 128, 2147483648, WHOLE_MOST):
            self.refused(256, 256, r)
            self.refused(2 * 9 + 1, 2 * 9 + 1, r)

    def test_side_below_twice_the_reach_and_one(self):
        for r in range(9):
            least = 2 * r + 1
            self.taken(least, least, r)
            self.refused(least - 1, least, r)
            self.refused(least, least - 1, r)
            self.refused(least - 1, least - 1, r)
            self.refused(least - 1, 256, r)
            self.refused(256, least - 1, r)

    def test_side_above_256(self):
        for r in (0, 1, 8):
            self.taken(256, 2 * r + 1, r)
            self.taken(2 * r + 1, 256, r)
            for side in (257, 258, 511, 512, 65536, WHOLE_MOST):
                self.refused(side, 20, r)
                self.refused(20, side, r)
                self.refused(side, side, r)

    def test_side_of_nothing(self):
        for r in (0, 1, 8, 9, WHOLE_MOST):
            self.refused(0, 20, r)
            self.refused(20, 0, r)
            self.refused(0, 0, r)

    def test_shift_just_outside_the_reach(self):
        for r in range(9):
            for step in (-r, r):
                self.taken(20, 19, r, step, 0)
                self.taken(20, 19, r, 0, step)
            for step in (-r - 1, r + 1):
                self.refused(20, 19, r, step, 0)
                self.refused(20, 19, r, 0, step)
                self.refused(20, 19, r, step, r)
                self.refused(20, 19, r, -r, step)
                self.refused(20, 19, r, step, step)

    def test_shift_within_the_picture_but_not_the_reach(self):
        self.refused(20, 20, 2, 3, 0)
        self.refused(20, 20, 2, 0, -3)
        self.refused(20, 20, 0, 1, 0)
        self.refused(20, 20, 0, 0, 1)

    def test_greatest_and_least_shifts(self):
        for r in (0, 1, 8):
            for far in (SIGN_LEAST, SIGN_LEAST + 1, SIGN_MOST):
                self.refused(20, 20, r, far, 0)
                self.refused(20, 20, r, 0, far)
                self.refused(20, 20, r, far, far)

    def test_everything_at_its_greatest_or_least(self):
        for w in (0, 1, 256, WHOLE_MOST):
            for h in (0, 1, 256, WHOLE_MOST):
                for r in (0, 8, WHOLE_MOST):
                    for dx in (SIGN_LEAST, SIGN_MOST):
                        for dy in (SIGN_LEAST, 0, SIGN_MOST):
                            self.refused(w, h, r, dx, dy)
                            self.refused(w, h, r, dy, dx)

    def test_reach_beyond_everything_takes_no_shift(self):
        for far in (SIGN_LEAST, 0, SIGN_MOST):
            self.refused(WHOLE_MOST, WHOLE_MOST, WHOLE_MOST, far, far)
            self.refused(WHOLE_MOST, WHOLE_MOST, SIGN_MOST, far, far)
            self.refused(1, 1, 2147483648, far, far)


if __name__ == "__main__":
    unittest.main()
