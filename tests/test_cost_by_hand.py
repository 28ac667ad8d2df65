"""Promise 1: what a shift costs, against sums worked out by hand."""

import unittest

from movedby.desk import cost


class ByHand(unittest.TestCase):

    def check(self, w, h, r, a, b, table):
        """The table has a row for each dy from -r to r, in it a sum for each dx."""
        self.assertEqual(len(table), 2 * r + 1)
        for row, line in enumerate(table):
            self.assertEqual(len(line), 2 * r + 1)
            for column, expected in enumerate(line):
                dx, dy = column - r, row - r
                with self.subTest(dx=dx, dy=dy):
                    self.assertEqual(cost(w, h, r, dx, dy, a, b), [0, expected])

    def test_one_place(self):
        self.check(1, 1, 0, [7], [250], [[243]])

    def test_no_reach_adds_every_place(self):
        a = [1, 2, 3,
             40, 50, 60]
        b = [4, 2, 0,
             45, 40, 255]
        self.check(3, 2, 0, a, b, [[3 + 0 + 3 + 5 + 10 + 195]])

    def test_middle_of_one_place(self):
        a = [255, 255, 255,
             255, 100, 255,
             255, 255, 255]
        b = [90, 105, 100,
             0, 255, 102,
             99, 103, 200]
        self.check(3, 3, 1, a, b, [
            [10, 5, 0],
            [100, 155, 2],
            [1, 3, 100]])

    def test_middle_of_two_columns(self):
        a = [9, 9, 9, 9,
             9, 10, 20, 9,
             9, 9, 9, 9]
        b = [1, 2, 3, 4,
             50, 60, 70, 80,
             11, 22, 33, 44]
        self.check(4, 3, 1, a, b, [
            [9 + 18, 8 + 17, 7 + 16],
            [40 + 40, 50 + 50, 60 + 60],
            [1 + 2, 12 + 13, 23 + 24]])

    def test_middle_of_two_rows(self):
        a = [0, 0, 0,
             0, 30, 0,
             0, 200, 0,
             0, 0, 0]
        b = [31, 35, 20,
             100, 190, 255,
             0, 30, 7,
             201, 150, 210]
        self.check(3, 4, 1, a, b, [
            [1 + 100, 5 + 10, 10 + 55],
            [70 + 200, 160 + 170, 225 + 193],
            [30 + 1, 0 + 50, 23 + 10]])

    def test_middle_of_three_by_two(self):
        a = [0, 0, 0, 0, 0,
             0, 5, 6, 7, 0,
             0, 8, 9, 10, 0,
             0, 0, 0, 0, 0]
        b = [1, 2, 3, 4, 5,
             6, 7, 8, 9, 10,
             11, 12, 13, 14, 15,
             16, 17, 18, 19, 20]
        self.check(5, 4, 1, a, b, [
            [4 + 4 + 4 + 2 + 2 + 2, 3 + 3 + 3 + 1 + 1 + 1, 2 + 2 + 2 + 0 + 0 + 0],
            [1 + 1 + 1 + 3 + 3 + 3, 2 + 2 + 2 + 4 + 4 + 4, 3 + 3 + 3 + 5 + 5 + 5],
            [6 + 6 + 6 + 8 + 8 + 8, 7 + 7 + 7 + 9 + 9 + 9, 8 + 8 + 8 + 10 + 10 + 10]])

    def test_reach_of_two(self):
        a = [0, 0, 0, 0, 0, 0,
             0, 0, 0, 0, 0, 0,
             0, 0, 50, 60, 0, 0,
             0, 0, 0, 0, 0, 0,
             0, 0, 0, 0, 0, 0]
        b = [50, 60, 70, 80, 90, 100,
             10, 20, 30, 40, 50, 60,
             0, 255, 0, 255, 0, 255,
             49, 61, 48, 62, 47, 63,
             55, 55, 55, 55, 55, 55]
        self.check(6, 5, 2, a, b, [
            [0 + 0, 10 + 10, 20 + 20, 30 + 30, 40 + 40],
            [40 + 40, 30 + 30, 20 + 20, 10 + 10, 0 + 0],
            [50 + 195, 205 + 60, 50 + 195, 205 + 60, 50 + 195],
            [1 + 1, 11 + 12, 2 + 2, 12 + 13, 3 + 3],
            [5 + 5, 5 + 5, 5 + 5, 5 + 5, 5 + 5]])


if __name__ == "__main__":
    unittest.main()
