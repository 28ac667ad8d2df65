"""Promise 2: the shift that costs least, on ordinary pictures, by hand and against a second search."""

import unittest

from movedby.desk import cost, find
from pictures import found_by_rows, picture, speckled


class ByHand(unittest.TestCase):

    def test_one_place(self):
        self.assertEqual(find(1, 1, 0, [7], [250]), [0, 0, 0, 243])

    def test_middle_of_one_place(self):
        a = [255, 255, 255,
             255, 100, 255,
             255, 255, 255]
        b = [90, 105, 103,
             0, 255, 102,
             96, 95, 200]
        self.assertEqual(find(3, 3, 1, a, b), [0, 1, 0, 2])

    def test_middle_of_two_columns(self):
        a = [9, 9, 9, 9,
             9, 10, 20, 9,
             9, 9, 9, 9]
        b = [1, 2, 3, 4,
             50, 60, 70, 80,
             11, 22, 33, 44]
        self.assertEqual(find(4, 3, 1, a, b), [0, -1, 1, 1 + 2])

    def test_middle_of_two_rows(self):
        a = [0, 0, 0,
             0, 30, 0,
             0, 200, 0,
             0, 0, 0]
        b = [31, 35, 20,
             100, 190, 255,
             0, 30, 7,
             201, 150, 210]
        self.assertEqual(find(3, 4, 1, a, b), [0, 0, -1, 5 + 10])

    def test_a_scene_that_has_moved(self):
        a = [0, 0, 0, 0, 0, 0, 0,
             0, 0, 0, 0, 0, 0, 0,
             0, 0, 9, 8, 7, 0, 0,
             0, 0, 6, 5, 4, 0, 0,
             0, 0, 0, 0, 0, 0, 0,
             0, 0, 0, 0, 0, 0, 0]
        b = [0, 0, 0, 0, 0, 0, 0,
             0, 0, 0, 0, 9, 8, 7,
             0, 0, 0, 0, 6, 5, 5,
             0, 0, 0, 0, 0, 0, 0,
             0, 0, 0, 0, 0, 0, 0,
             0, 0, 0, 0, 0, 0, 0]
        self.assertEqual(find(7, 6, 2, a, b), [0, 2, -1, 1])


class AgainstSearch(unittest.TestCase):

    def check(self, w, h, r, a, b):
        answer = find(w, h, r, a, b)
        self.assertEqual(answer, found_by_rows(w, h, r, a, b))
        self.assertEqual(cost(w, h, r, answer[1], answer[2], a, b), [0, answer[3]])

    def test_every_small_size(self):
        for r in range(4):
            for w in range(2 * r + 1, 2 * r + 6):
                for h in range(2 * r + 1, 2 * r + 6):
                    for seed in range(4):
                        with self.subTest(w=w, h=h, r=r, seed=seed):
                            self.check(w, h, r, speckled(w, h, seed), speckled(w, h, seed + 50))

    def test_few_greys_so_that_many_shifts_cost_the_same(self):
        for greys in (2, 3):
            for r in range(4):
                for wider, higher in ((1, 1), (2, 1), (1, 3), (2, 2)):
                    w, h = 2 * r + wider, 2 * r + higher
                    for seed in range(12):
                        a = [grey % greys for grey in speckled(w, h, seed)]
                        b = [grey % greys for grey in speckled(w, h, seed + 70)]
                        with self.subTest(greys=greys, w=w, h=h, r=r, seed=seed):
                            self.check(w, h, r, a, b)

    def test_slopes(self):
        for r in range(4):
            w, h = 2 * r + 5, 2 * r + 4
            for across in (-3, 0, 3):
                for down in (-4, 0, 4):
                    a = picture(w, h, lambda x, y: 128 + across * (x - r) + down * (y - r))
                    b = picture(w, h, lambda x, y: 131 + across * (x - r) + down * (y - r))
                    with self.subTest(r=r, across=across, down=down):
                        self.check(w, h, r, a, b)

    def test_reach_of_four_to_eight(self):
        for r in range(4, 9):
            for w, h in ((2 * r + 2, 2 * r + 4), (2 * r + 6, 2 * r + 1)):
                with self.subTest(w=w, h=h, r=r):
                    self.check(w, h, r, speckled(w, h, r), speckled(w, h, r + 90))


if __name__ == "__main__":
    unittest.main()
