"""Promise 9, order: how many different jumps there are, then the places by their parts behind the point."""

import unittest
from functools import cmp_to_key

from linesteps.slopes import order
from tests.exact import CORNERS, ROOTS, sign_of, true_heights

# Slopes with two places of which the parts differ by less than 0.0000000003, and how far these are apart.
CLOSE = (
    ((31, 908, 997, 994), 90), ((709, 996, 1000, 660), 91), ((559, 1000, 1000, 657), 89), ((826, 815, 1000, 747), 99),
    ((262, 962, 999, 963), 62), ((-31, -908, 997, 994), 90), ((-709, -996, 1000, 660), 91),
    ((-559, -1000, 1000, 657), 89), ((-826, -815, 1000, 747), 99), ((-262, -962, 999, 963), 62),
)


def true_order(slope, n):
    """The parts times c are at a - h c + at b roots: their differences are held against 0."""
    a, b, c, d = slope
    heights = true_heights(slope, max(n, 2))

    def compare(one, other):
        x = (one - other) * a - (heights[one] - heights[other]) * c
        return sign_of(x, (one - other) * b, d)

    placed = sorted(range(n), key=cmp_to_key(compare))
    jumps = [placed[(i + 1) % n] - placed[i] for i in range(n)]
    return [len(set(jumps))] + placed


class WorkedOut(unittest.TestCase):
    def test_root_of_2(self):
        # The parts: 0, 0.414, 0.828, 0.243, 0.657, 0.071
        self.assertEqual(order(0, 1, 1, 2, 3), [2, 0, 1, 2])
        # 3, -2, 1 and from the last to the first -2
        self.assertEqual(order(0, 1, 1, 2, 4), [3, 0, 3, 1, 2])
        self.assertEqual(order(0, 1, 1, 2, 5), [2, 0, 3, 1, 4, 2])
        self.assertEqual(order(0, 1, 1, 2, 6), [3, 0, 5, 3, 1, 4, 2])

    def test_below_0(self):
        # less root 2: 0, 0.586, 0.172, 0.757, 0.343
        self.assertEqual(order(0, -1, 1, 2, 5), [2, 0, 2, 4, 1, 3])
        self.assertEqual(order(1, -1, 1, 2, 5), [2, 0, 2, 4, 1, 3])
        self.assertEqual(order(0, -1, 1, 2, 4), [3, 0, 2, 1, 3])

    def test_golden_slope(self):
        # The parts: 0, 0.618, 0.236, 0.854, 0.472, 0.090
        self.assertEqual(order(1, 1, 2, 5, 6), [3, 0, 5, 2, 4, 1, 3])
        self.assertEqual(order(-1, 1, 2, 5, 5), [2, 0, 2, 4, 1, 3])

    def test_flat(self):
        # The root of 2 by 1000 rises by so little that no part turns over below 708.
        self.assertEqual(order(0, 1, 1000, 2, 100), [2] + list(range(100)))
        # Below 0 the parts begin close to 1 and fall, only that of 0 is 0.
        self.assertEqual(order(0, -1, 1000, 2, 100), [2, 0] + list(range(99, 0, -1)))


class Edges(unittest.TestCase):
    def test_one_place(self):
        # From the last to the first is from 0 to itself: the one number 0.
        for slope in ROOTS:
            self.assertEqual(order(*slope, 1), [1, 0], slope)

    def test_two_places(self):
        # 1 and -1
        for slope in ROOTS:
            self.assertEqual(order(*slope, 2), [2, 0, 1], slope)

    def test_corners(self):
        for slope in CORNERS:
            if slope[1] != 0 and slope[3] != 0:
                for n in (1, 2, 3, 99, 100):
                    self.assertEqual(order(*slope, n), true_order(slope, n), (slope, n))


class Definition(unittest.TestCase):
    def test_every_kind_of_root(self):
        for slope in ROOTS:
            for n in (1, 2, 3, 4, 5, 8, 13, 50, 99, 100):
                self.assertEqual(order(*slope, n), true_order(slope, n), (slope, n))

    def test_every_n(self):
        for slope in ((0, 1, 1, 2), (-3, -2, 7, 3), (999, -999, 998, 2)):
            for n in range(1, 101):
                self.assertEqual(order(*slope, n), true_order(slope, n), (slope, n))

    def test_many_roots(self):
        for d in (2, 3, 61, 999):
            for a in (-1000, -7, 0, 999):
                for b in (-1000, -3, 1, 997):
                    for c in (1, 9, 997, 1000):
                        self.assertEqual(order(a, b, c, d, 40), true_order((a, b, c, d), 40), (a, b, c, d))


class Exactness(unittest.TestCase):
    def test_parts_that_differ_very_little(self):
        for slope, apart in CLOSE:
            placed = order(*slope, 100)[1:]
            self.assertEqual(order(*slope, 100), true_order(slope, 100), slope)
            for at in range(1, 100 - apart):
                # Nothing lies between the two, they stand side by side.
                self.assertEqual(abs(placed.index(at) - placed.index(at + apart)), 1, (slope, at))

    def test_close_to_0(self):
        # 44 times the root of 485 is only just below 969, 29 times that of 925 only just above 882.
        self.assertEqual(order(-969, 44, 1000, 485, 4), [2, 0, 3, 2, 1])
        self.assertEqual(order(969, -44, 1000, 485, 4), [2, 0, 1, 2, 3])
        self.assertEqual(order(-882, 29, 1, 925, 4), [2, 0, 1, 2, 3])
        self.assertEqual(order(882, -29, 1, 925, 4), [2, 0, 3, 2, 1])


class Form(unittest.TestCase):
    def test_whole_numbers_in_a_list(self):
        for slope in ROOTS:
            for n in (1, 2, 3, 30, 100):
                answer = order(*slope, n)
                self.assertIs(type(answer), list)
                self.assertEqual([type(x) for x in answer], [int] * (n + 1))
                self.assertEqual(sorted(answer[1:]), list(range(n)))
                self.assertTrue(1 <= answer[0] <= 3)

    def test_again_is_the_same(self):
        asked = [slope + (n,) for slope in ROOTS for n in (1, 5, 40)]
        first = [order(*each) for each in asked]
        for answer in [order(*each) for each in asked]:
            answer.append(5)
        self.assertEqual([order(*each) for each in reversed(asked)], first[::-1])


if __name__ == "__main__":
    unittest.main()
