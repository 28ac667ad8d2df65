"""Promise 2: -22, alone, where the sizes aren't right."""

import itertools
import unittest

from movedby.desk import find
from pictures import plain

WHOLE_MOST = 4294967295


class Refusals(unittest.TestCase):

    def check(self, w, h, r, expected):
        with self.subTest(w=w, h=h, r=r):
            self.assertEqual(find(w, h, r, plain(w, h, 3), plain(w, h, 5)), expected)

    def refused(self, w, h, r):
        self.check(w, h, r, [-22])

    def taken(self, w, h, r):
        self.check(w, h, r, [0, 0, 0, 2 * (w - 2 * r) * (h - 2 * r)])

    def test_reach_above_eight(self):
        self.taken(19, 19, 8)
        for r in (9, 10, 16, 127, 128, 255, 256, 2147483647, 2147483648, WHOLE_MOST):
            for w, h in ((1, 1), (17, 17), (19, 19), (256, 256), (257, 257), (0, 0)):
                self.refused(w, h, r)

    def test_side_below_twice_the_reach_and_one(self):
        for r in range(9):
            least = 2 * r + 1
            self.taken(least, least, r)
            for short in range(least):
                self.refused(short, least, r)
                self.refused(least, short, r)
                self.refused(short, short, r)
                self.refused(short, 256, r)
                self.refused(256, short, r)

    def test_side_above_256(self):
        for r in (0, 1, 8):
            self.taken(256, 2 * r + 1, r)
            self.taken(2 * r + 1, 256, r)
            for side in (257, 258, 511, 512, 65536, 2147483648, WHOLE_MOST):
                for other in (20, 256, side):
                    self.refused(side, other, r)
                    self.refused(other, side, r)

    def test_side_of_nothing(self):
        for r in (0, 1, 8, 9, WHOLE_MOST):
            for side in (0, 1, 20, 256, 257, WHOLE_MOST):
                self.refused(0, side, r)
                self.refused(side, 0, r)

    def test_greatest_numbers(self):
        for w, h, r in itertools.product((0, 1, 17, 256, WHOLE_MOST), (0, 1, 17, 256, WHOLE_MOST), (0, 8, WHOLE_MOST)):
            if WHOLE_MOST in (w, h, r):
                self.refused(w, h, r)


if __name__ == "__main__":
    unittest.main()
