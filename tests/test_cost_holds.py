"""What holds of costs: exactly, a picture against itself, light, mirrored."""

import unittest

from movedby.desk import cost
from pictures import mirrored, plain, shifted, shifts, speckled

SIZES = ((1, 1, 0), (6, 4, 0), (3, 3, 1), (8, 5, 1), (5, 9, 2), (12, 11, 3), (17, 17, 8), (33, 20, 8))


class Holds(unittest.TestCase):

    def test_exactly_the_shift_costs_nothing(self):
        for w, h, r in SIZES:
            a = speckled(w, h, 11)
            for dx, dy in shifts(r):
                for beyond in (0, 255):
                    b = shifted(w, h, dx, dy, a, beyond)
                    with self.subTest(w=w, h=h, r=r, dx=dx, dy=dy, beyond=beyond):
                        self.assertEqual(cost(w, h, r, dx, dy, a, b), [0, 0])

    def test_exactly_the_other_shifts_cost_something(self):
        w, h, r = 12, 11, 3
        a = speckled(w, h, 12)
        for dx, dy in shifts(r):
            b = shifted(w, h, dx, dy, a, 0)
            free = [(x, y) for x, y in shifts(r) if cost(w, h, r, x, y, a, b)[1] == 0]
            with self.subTest(dx=dx, dy=dy):
                self.assertEqual(free, [(dx, dy)])

    def test_a_picture_against_itself(self):
        for w, h, r in SIZES + ((256, 256, 8),):
            a = speckled(w, h, 13)
            with self.subTest(w=w, h=h, r=r):
                self.assertEqual(cost(w, h, r, 0, 0, a, a), [0, 0])
                self.assertEqual(cost(w, h, r, 0, 0, a, list(a)), [0, 0])

    def test_light(self):
        for w, h, r in SIZES:
            a = [grey // 2 for grey in speckled(w, h, 14)]
            b = [grey // 2 for grey in speckled(w, h, 15)]
            for lighter in (1, 128):
                lighter_a = [grey + lighter for grey in a]
                lighter_b = [grey + lighter for grey in b]
                for dx, dy in shifts(r):
                    with self.subTest(w=w, h=h, r=r, dx=dx, dy=dy, lighter=lighter):
                        self.assertEqual(cost(w, h, r, dx, dy, lighter_a, lighter_b),
                                         cost(w, h, r, dx, dy, a, b))

    def test_one_picture_lighter_costs_just_that(self):
        for w, h, r in SIZES:
            a, b = plain(w, h, 90), plain(w, h, 97)
            for dx, dy in shifts(r):
                with self.subTest(w=w, h=h, r=r, dx=dx, dy=dy):
                    self.assertEqual(cost(w, h, r, dx, dy, a, b),
                                     [0, 7 * (w - 2 * r) * (h - 2 * r)])

    def test_mirrored(self):
        for w, h, r in SIZES:
            a, b = speckled(w, h, 16), speckled(w, h, 17)
            for dx, dy in shifts(r):
                with self.subTest(w=w, h=h, r=r, dx=dx, dy=dy):
                    self.assertEqual(cost(w, h, r, -dx, dy, mirrored(w, a), mirrored(w, b)),
                                     cost(w, h, r, dx, dy, a, b))


if __name__ == "__main__":
    unittest.main()
