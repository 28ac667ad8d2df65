"""Promise 1 at the corners that the document names."""

import unittest

from movedby.desk import cost
from pictures import cost_by_rows, lit, picture, plain, shifts, speckled


class Edges(unittest.TestCase):
    """Which places count: the middle of a, and what the shift makes of it in b."""

    SIZES = ((1, 1, 0), (4, 3, 0), (3, 3, 1), (3, 5, 1), (6, 4, 1), (5, 5, 2), (7, 6, 2))

    def test_a_counts_in_the_middle_alone(self):
        for w, h, r in self.SIZES:
            black = plain(w, h, 0)
            for x in range(w):
                for y in range(h):
                    inside = r <= x <= w - r - 1 and r <= y <= h - r - 1
                    for dx, dy in shifts(r):
                        with self.subTest(w=w, h=h, r=r, x=x, y=y, dx=dx, dy=dy):
                            self.assertEqual(cost(w, h, r, dx, dy, lit(w, h, x, y), black),
                                             [0, 255 if inside else 0])

    def test_b_counts_where_the_shift_leads(self):
        for w, h, r in self.SIZES:
            black = plain(w, h, 0)
            for x in range(w):
                for y in range(h):
                    for dx, dy in shifts(r):
                        inside = r <= x - dx <= w - r - 1 and r <= y - dy <= h - r - 1
                        with self.subTest(w=w, h=h, r=r, x=x, y=y, dx=dx, dy=dy):
                            self.assertEqual(cost(w, h, r, dx, dy, black, lit(w, h, x, y)),
                                             [0, 255 if inside else 0])


class Corners(unittest.TestCase):

    def test_no_reach(self):
        for w, h in ((1, 1), (1, 256), (256, 1), (5, 7), (256, 256)):
            a, b = speckled(w, h, 1), speckled(w, h, 2)
            with self.subTest(w=w, h=h):
                self.assertEqual(cost(w, h, 0, 0, 0, a, b),
                                 [0, sum(abs(p - q) for p, q in zip(a, b))])

    def test_least_width_leaves_one_column(self):
        for r in range(9):
            w, h = 2 * r + 1, 2 * r + 4
            a = picture(w, h, lambda x, y: 100 if x == r else 255)
            b = picture(w, h, lambda x, y: 100 + x)
            for dx, dy in shifts(r):
                with self.subTest(r=r, dx=dx, dy=dy):
                    self.assertEqual(cost(w, h, r, dx, dy, a, b), [0, 4 * (r + dx)])

    def test_least_height_leaves_one_row(self):
        for r in range(9):
            w, h = 2 * r + 4, 2 * r + 1
            a = picture(w, h, lambda x, y: 100 if y == r else 255)
            b = picture(w, h, lambda x, y: 100 + y)
            for dx, dy in shifts(r):
                with self.subTest(r=r, dx=dx, dy=dy):
                    self.assertEqual(cost(w, h, r, dx, dy, a, b), [0, 4 * (r + dy)])

    def test_all_of_one_grey(self):
        for grey in (0, 1, 128, 255):
            for w, h, r in ((1, 1, 0), (5, 9, 2), (17, 18, 8)):
                one = plain(w, h, grey)
                for dx, dy in shifts(r):
                    with self.subTest(grey=grey, w=w, h=h, r=r, dx=dx, dy=dy):
                        self.assertEqual(cost(w, h, r, dx, dy, one, one), [0, 0])
                        self.assertEqual(cost(w, h, r, dx, dy, one, plain(w, h, grey)), [0, 0])

    def test_white_against_black_at_the_greatest_size(self):
        white, black = plain(256, 256, 255), plain(256, 256, 0)
        self.assertEqual(cost(256, 256, 0, 0, 0, white, black), [0, 16711680])
        self.assertEqual(cost(256, 256, 0, 0, 0, black, white), [0, 16711680])
        for dx, dy in ((0, 0), (-8, -8), (8, -8), (-8, 8), (8, 8)):
            with self.subTest(dx=dx, dy=dy):
                self.assertEqual(cost(256, 256, 8, dx, dy, white, black), [0, 14688000])
                self.assertEqual(cost(256, 256, 8, dx, dy, black, white), [0, 14688000])

    def test_rows_of_31_32_and_33_places(self):
        # Of b the grey is x + 40 y, so each place differs by dx + 40 (1 + dy).
        for w, inside in ((31, 29), (32, 30), (33, 31)):
            a = picture(w, 3, lambda x, y: x)
            b = picture(w, 3, lambda x, y: x + 40 * y)
            table = {(-1, -1): 1, (0, -1): 0, (1, -1): 1,
                     (-1, 0): 39, (0, 0): 40, (1, 0): 41,
                     (-1, 1): 79, (0, 1): 80, (1, 1): 81}
            for (dx, dy), each in table.items():
                with self.subTest(w=w, dx=dx, dy=dy):
                    self.assertEqual(cost(w, 3, 1, dx, dy, a, b), [0, each * inside])

    def test_rows_of_31_32_and_33_places_at_every_reach(self):
        for w in (31, 32, 33):
            for r in range(9):
                h = 2 * r + 2
                a, b = speckled(w, h, 3), speckled(w, h, 4)
                for dx, dy in shifts(r):
                    with self.subTest(w=w, r=r, dx=dx, dy=dy):
                        self.assertEqual(cost(w, h, r, dx, dy, a, b),
                                         [0, cost_by_rows(w, h, r, dx, dy, a, b)])

    def test_reach_of_eight_at_its_least_size(self):
        a = picture(17, 17, lambda x, y: 200 if (x, y) == (8, 8) else 17)
        b = speckled(17, 17, 5)
        for dx, dy in shifts(8):
            with self.subTest(dx=dx, dy=dy):
                self.assertEqual(cost(17, 17, 8, dx, dy, a, b),
                                 [0, abs(200 - b[(8 + dy) * 17 + 8 + dx])])

    def test_reach_of_eight_at_its_greatest_sizes(self):
        for w, h in ((256, 17), (17, 256), (256, 256)):
            a, b = speckled(w, h, 6), speckled(w, h, 7)
            for dx, dy in ((0, 0), (-8, -8), (8, -8), (-8, 8), (8, 8), (-3, 5), (7, 0), (0, -7)):
                with self.subTest(w=w, h=h, dx=dx, dy=dy):
                    self.assertEqual(cost(w, h, 8, dx, dy, a, b),
                                     [0, cost_by_rows(w, h, 8, dx, dy, a, b)])


if __name__ == "__main__":
    unittest.main()
