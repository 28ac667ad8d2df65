"""Promise 2 at the corners that the document names."""

import unittest

from movedby.desk import find
from pictures import cheap, found_by_rows, lit, picture, plain, shifted, shifts, speckled


class Corners(unittest.TestCase):

    def test_no_reach(self):
        for w, h in ((1, 1), (1, 256), (256, 1), (5, 7), (256, 256)):
            a, b = speckled(w, h, 1), speckled(w, h, 2)
            with self.subTest(w=w, h=h):
                self.assertEqual(find(w, h, 0, a, b), [0, 0, 0, sum(abs(p - q) for p, q in zip(a, b))])

    def test_least_width_leaves_one_column(self):
        for r in range(9):
            w, h = 2 * r + 1, 2 * r + 4
            a = picture(w, h, lambda x, y: 100 + 10 * (y % 4) if x == r else 255)
            for column in range(w):
                b = picture(w, h, lambda x, y: 101 + 10 * (y % 4) if x == column else 0)
                with self.subTest(r=r, column=column):
                    self.assertEqual(find(w, h, r, a, b), [0, column - r, 0, 4])

    def test_least_height_leaves_one_row(self):
        for r in range(9):
            w, h = 2 * r + 4, 2 * r + 1
            a = picture(w, h, lambda x, y: 100 + 10 * (x % 4) if y == r else 255)
            for row in range(h):
                b = picture(w, h, lambda x, y: 101 + 10 * (x % 4) if y == row else 0)
                with self.subTest(r=r, row=row):
                    self.assertEqual(find(w, h, r, a, b), [0, 0, row - r, 4])

    def test_all_of_one_grey(self):
        for grey in (0, 1, 128, 255):
            for w, h, r in ((1, 1, 0), (5, 9, 2), (17, 18, 8), (33, 32, 8)):
                one = plain(w, h, grey)
                with self.subTest(grey=grey, w=w, h=h, r=r):
                    self.assertEqual(find(w, h, r, one, one), [0, 0, 0, 0])
                    self.assertEqual(find(w, h, r, one, plain(w, h, grey)), [0, 0, 0, 0])

    def test_white_against_black_at_the_greatest_size(self):
        white, black = plain(256, 256, 255), plain(256, 256, 0)
        for r, price in ((0, 16711680), (1, 16451580), (8, 14688000)):
            with self.subTest(r=r):
                self.assertEqual(find(256, 256, r, white, black), [0, 0, 0, price])
                self.assertEqual(find(256, 256, r, black, white), [0, 0, 0, price])

    def test_rows_of_31_32_and_33_places(self):
        for w in (31, 32, 33):
            for r in range(9):
                h = 2 * r + 2
                a, b = speckled(w, h, 3), speckled(w, h, 4)
                with self.subTest(w=w, r=r):
                    self.assertEqual(find(w, h, r, a, b), found_by_rows(w, h, r, a, b))

    def test_the_ends_of_rows_of_31_32_and_33_places_count(self):
        # The one white place of b stands for the first or the last place of the middle of a.
        for w in (31, 32, 33):
            for r in range(1, 9):
                h = 2 * r + 1
                for x in (r, w - r - 1):
                    for dx, dy in ((-r, -r), (r, -r), (-r, r), (r, r), (1, 0), (0, 1), (0, 0)):
                        a, b = lit(w, h, x, r), lit(w, h, x + dx, r + dy)
                        with self.subTest(w=w, r=r, x=x, dx=dx, dy=dy):
                            self.assertEqual(find(w, h, r, a, b), [0, dx, dy, 0])

    def test_reach_of_eight_at_its_least_size(self):
        for dx, dy in shifts(8):
            w, h, r, a, b = cheap({(8, 8): 255, (dx, dy): 1})
            with self.subTest(dx=dx, dy=dy):
                self.assertEqual((w, h, r), (17, 17, 8))
                self.assertEqual(find(w, h, r, a, b), [0, dx, dy, 1])

    def test_reach_of_eight_at_its_least_width_or_height(self):
        for w, h in ((17, 256), (256, 17)):
            a = speckled(w, h, 6)
            for dx, dy in ((-8, -8), (8, -8), (-8, 8), (8, 8), (-3, 5), (0, 0)):
                b = shifted(w, h, dx, dy, a, 0)
                with self.subTest(w=w, h=h, dx=dx, dy=dy):
                    self.assertEqual(find(w, h, 8, a, b), [0, dx, dy, 0])
            b = speckled(w, h, 7)
            with self.subTest(w=w, h=h):
                self.assertEqual(find(w, h, 8, a, b), found_by_rows(w, h, 8, a, b))

    def test_reach_of_eight_at_its_greatest_size(self):
        a = speckled(256, 256, 8)
        for dx, dy in ((8, -8), (-7, 3)):
            b = shifted(256, 256, dx, dy, a, 0)
            # One place of the middle has got lighter or darker on the way.
            b[(100 + dy) * 256 + 100 + dx] ^= 1
            with self.subTest(dx=dx, dy=dy):
                self.assertEqual(find(256, 256, 8, a, b), [0, dx, dy, 1])

    def test_two_shifts_that_cost_the_same_to_either_side(self):
        # A pattern that comes again after twice the step looks alike a step to either side.
        for w in (31, 32, 33):
            for step in range(1, 9):
                across = [picture(w, 19, lambda x, y: (x - back) % (2 * step) * 15) for back in (0, step)]
                along = [picture(19, w, lambda x, y: (y - back) % (2 * step) * 15) for back in (0, step)]
                with self.subTest(w=w, step=step):
                    self.assertEqual(find(w, 19, 8, *across), [0, -step, 0, 0])
                    self.assertEqual(find(19, w, 8, *along), [0, 0, -step, 0])


if __name__ == "__main__":
    unittest.main()
