"""What holds of the shift that is found: exactly, least, light, mirrored."""

import unittest

from movedby.desk import cost, find
from pictures import cost_by_rows, found_by_rows, mirrored, nearest, picture, shifted, shifts, speckled

SIZES = ((1, 1, 0), (6, 4, 0), (3, 3, 1), (8, 5, 1), (5, 9, 2), (7, 6, 2), (12, 11, 3), (17, 17, 8), (20, 19, 8))


def pairs():
    """Each size with pictures of many greys and of few."""
    for w, h, r in SIZES:
        for greys in (256, 2):
            yield w, h, r, [[grey % greys for grey in speckled(w, h, seed)] for seed in (31, 32)]


class Exactly(unittest.TestCase):

    def free(self, w, h, r, a, b):
        return [(dx, dy) for dx, dy in shifts(r) if cost_by_rows(w, h, r, dx, dy, a, b) == 0]

    def test_the_only_shift_that_costs_nothing_is_found(self):
        for w, h, r in ((6, 4, 0), (8, 7, 1), (9, 9, 2), (12, 11, 3)):
            a = speckled(w, h, 33)
            for dx, dy in shifts(r):
                for beyond in (0, 255):
                    b = shifted(w, h, dx, dy, a, beyond)
                    with self.subTest(w=w, h=h, r=r, dx=dx, dy=dy, beyond=beyond):
                        self.assertEqual(self.free(w, h, r, a, b), [(dx, dy)])
                        self.assertEqual(find(w, h, r, a, b), [0, dx, dy, 0])

    def test_where_others_cost_nothing_too_the_nearest_is_found(self):
        w, h, r = 12, 11, 3
        a = picture(w, h, lambda x, y: 50 * (x % 2) + 100 * (y % 2))
        for dx, dy in shifts(r):
            b = picture(w, h, lambda x, y: 50 * ((x - dx) % 2) + 100 * ((y - dy) % 2))
            free = self.free(w, h, r, a, b)
            with self.subTest(dx=dx, dy=dy):
                self.assertGreater(len(free), 1)
                self.assertEqual(find(w, h, r, a, b), [0, -(dx % 2), -(dy % 2), 0])
                self.assertEqual(nearest(free), (-(dx % 2), -(dy % 2)))


class Least(unittest.TestCase):

    def test_no_shift_costs_less(self):
        for w, h, r, (a, b) in pairs():
            answer = find(w, h, r, a, b)
            for dx, dy in shifts(r):
                with self.subTest(w=w, h=h, r=r, dx=dx, dy=dy):
                    self.assertLessEqual(answer[3], cost(w, h, r, dx, dy, a, b)[1])

    def test_the_cost_is_what_cost_answers_there(self):
        for w, h, r, (a, b) in pairs():
            answer = find(w, h, r, a, b)
            with self.subTest(w=w, h=h, r=r):
                self.assertEqual(cost(w, h, r, answer[1], answer[2], a, b), [0, answer[3]])

    def test_a_picture_against_itself(self):
        for w, h, r, (a, b) in pairs():
            with self.subTest(w=w, h=h, r=r):
                self.assertEqual(find(w, h, r, a, a), [0, 0, 0, 0])
                self.assertEqual(find(w, h, r, b, list(b)), [0, 0, 0, 0])

    def test_a_picture_of_the_greatest_size_against_itself(self):
        a = speckled(256, 256, 34)
        self.assertEqual(find(256, 256, 8, a, a), [0, 0, 0, 0])


class Light(unittest.TestCase):

    def test_both_lighter(self):
        for w, h, r, (a, b) in pairs():
            a, b = [grey // 2 for grey in a], [(grey + 1) // 2 for grey in b]
            for lighter in (1, 127):
                with self.subTest(w=w, h=h, r=r, lighter=lighter):
                    self.assertEqual(find(w, h, r, [grey + lighter for grey in a], [grey + lighter for grey in b]),
                                     find(w, h, r, a, b))


class Mirrored(unittest.TestCase):

    def test_the_shift_to_the_other_side_costs_the_same(self):
        for w, h, r, (a, b) in pairs():
            dx, dy, price = find(w, h, r, a, b)[1:]
            a, b = mirrored(w, a), mirrored(w, b)
            with self.subTest(w=w, h=h, r=r):
                self.assertEqual(cost(w, h, r, -dx, dy, a, b), [0, price])
                self.assertEqual(find(w, h, r, a, b)[3], price)
                self.assertEqual(find(w, h, r, a, b), found_by_rows(w, h, r, a, b))

    def test_the_only_shift_that_costs_least_is_found_on_the_other_side(self):
        w, h, r = 12, 11, 3
        a = speckled(w, h, 35)
        for dx, dy in shifts(r):
            b = shifted(w, h, dx, dy, a, 0)
            with self.subTest(dx=dx, dy=dy):
                self.assertEqual(find(w, h, r, mirrored(w, a), mirrored(w, b)), [0, -dx, dy, 0])


if __name__ == "__main__":
    unittest.main()
