"""Promise 6, rows: how many different rows of k steps there are, over all places from 0 on."""

import unittest
from fractions import Fraction

from linesteps.slopes import rows
from tests.exact import CORNERS, ROOTS, true_height, true_steps

# Fractions with c up to 60: b = 0, d = 0, d a square, with a common factor, whole, 0 and below 0.
SMALL = (
    (0, 0, 1, 0), (0, 0, 60, 1000), (1000, 0, 1, 7), (-1000, 1000, 1, 0), (5, 7, 1, 961), (-6, 3, 4, 4), (59, 0, 60, 5),
    (-59, 0, 60, 5), (30, 0, 60, 0), (45, 9, 60, 0), (-44, 3, 60, 0), (1, 2, 6, 4), (1, -2, 6, 4), (-1, -2, 55, 9),
    (-1, 2, 49, 9), (1000, 1000, 59, 961), (-1000, -1000, 59, 961), (999, -1000, 60, 1), (7, 3, 12, 25),
    (1, 1, 31, 900),
)


def rows_at(slope, k, places):
    found = set()
    for n in places:
        heights = [true_height(*slope, at) for at in range(n, n + k + 1)]
        found.add(tuple(heights[i + 1] - heights[i] for i in range(k)))
    return found


def counted(slope, k, places):
    """How many different rows of k steps begin at 0 up to places - 1."""
    row = true_steps(slope, places + k)
    return len({tuple(row[n:n + k]) for n in range(places)})


class WorkedOut(unittest.TestCase):
    def test_fractions(self):
        # 7/3: 2, 2, 3 again and again; 5/8: 0, 1, 0, 1, 1, 0, 1, 1 again and again
        self.assertEqual([rows(7, 0, 3, 2, k) for k in (1, 2, 3, 60)], [[2], [3], [3], [3]])
        self.assertEqual([rows(5, 9, 8, 0, k) for k in range(1, 10)], [[2], [3], [4], [5], [6], [7], [8], [8], [8]])
        # -1/2: -1, 0 again and again
        self.assertEqual([rows(-1, 0, 2, 0, k) for k in (1, 2, 3)], [[2], [2], [2]])

    def test_common_factor(self):
        # (2 + 2 times the root of 9) / 6 is 4/3, 40/60 is 2/3
        self.assertEqual([rows(2, 2, 6, 9, k) for k in (1, 2, 3, 60)], [[2], [3], [3], [3]])
        self.assertEqual([rows(40, 0, 60, 0, k) for k in (1, 2, 3, 60)], [[2], [3], [3], [3]])

    def test_whole_slopes(self):
        for slope in ((0, 0, 1, 0), (0, 0, 60, 9), (-6, 3, 5, 4), (60, 0, 60, 0), (-60, 0, 60, 0), (9, 1000, 1, 961)):
            self.assertEqual([rows(*slope, k) for k in (1, 2, 60)], [[1], [1], [1]], slope)

    def test_root_of_2(self):
        # The steps: 1, 1, 2, 1, 2, 1, 1, 2, 1, 2, 1, 2, 1, 1; no 2 stands beside a 2, no 1, 1 beside a 1
        self.assertEqual([rows(0, 1, 1, 2, k) for k in (1, 2, 3)], [[2], [3], [4]])


class Counted(unittest.TestCase):
    def test_fractions(self):
        for slope in SMALL:
            for k in (1, 2, 3, 5, 11, 12, 13, 29, 30, 31, 58, 59, 60):
                # The steps of a fraction come again after c places at the latest.
                self.assertEqual(rows(*slope, k), [counted(slope, k, 2 * slope[2])], (slope, k))

    def test_every_fraction_with_a_small_c(self):
        for c in range(1, 13):
            for a in range(-c, 2 * c + 1):
                for k in range(1, 15):
                    self.assertEqual(rows(a, 0, c, 3, k), [counted((a, 0, c, 3), k, 2 * c)], (a, c, k))

    def test_every_c_and_k(self):
        for c in range(1, 61):
            low = Fraction(31, c).denominator
            for k in range(1, 61):
                self.assertEqual(rows(31, 0, c, 0, k), [min(k + 1, low)], (c, k))

    def test_no_fractions(self):
        for slope in ((0, 1, 1, 2), (0, -1, 1, 2), (1, 1, 2, 5), (-1, -1, 2, 5), (3, 2, 7, 3), (3, -2, 7, 3)):
            for k in (1, 2, 3, 4, 10, 25):
                self.assertEqual(rows(*slope, k), [counted(slope, k, 3000)], (slope, k))


class NoFraction(unittest.TestCase):
    def test_one_more_than_k(self):
        for slope in ROOTS:
            for k in (1, 2, 17, 60, 61, 999, 1000):
                self.assertEqual(rows(*slope, k), [k + 1], (slope, k))

    def test_beside_squares(self):
        for d in (2, 3, 5, 8, 10, 24, 26, 960, 962, 999, 1000):
            self.assertEqual(rows(1, -1000, 60, d, 1000), [1001], d)

    def test_rows_that_first_stand_far_out(self):
        # 44 times the root of 485 is 968.99948..., so the next step that is not 0 stands behind 1000000.
        for slope in ((969, -44, 1000, 485), (-969, 44, 1000, 485)):
            for k in (1, 2, 9):
                places = [0, 1000] + list(range(1937998 - k, 1938000))
                self.assertEqual(rows(*slope, k), [len(rows_at(slope, k, places))], (slope, k))
        # 1000 less 127 times the root of 62 is 0.00100000025...
        self.assertEqual(len(rows_at((1000, -127, 50, 62), 60, [0] + list(range(49940, 50000)))), 61)
        self.assertEqual(rows(1000, -127, 50, 62, 60), [61])


class Edges(unittest.TestCase):
    def test_corners(self):
        for slope in CORNERS:
            a, b, c, d = slope
            for k in (1, 60):
                if b != 0 and d != 0:
                    self.assertEqual(rows(*slope, k), [k + 1], (slope, k))
                elif c == 1:
                    self.assertEqual(rows(*slope, k), [1], (slope, k))

    def test_fractions_of_60(self):
        for a in (-999, -1, 1, 7, 59, 61, 999):
            low = Fraction(a, 60).denominator
            self.assertEqual([rows(a, 0, 60, 1000, k)[0] for k in (1, 59, 60)], [min(2, low), low, low], a)


class Form(unittest.TestCase):
    def test_one_whole_number_in_a_list(self):
        for slope in SMALL + ROOTS:
            for k in (1, 2, 60):
                answer = rows(*slope, k)
                self.assertIs(type(answer), list)
                self.assertEqual([type(x) for x in answer], [int])

    def test_again_is_the_same(self):
        asked = [slope + (k,) for slope in SMALL + ROOTS for k in (1, 5, 60)]
        first = [rows(*each) for each in asked]
        for answer in [rows(*each) for each in asked]:
            answer.append(5)
        self.assertEqual([rows(*each) for each in reversed(asked)], first[::-1])


if __name__ == "__main__":
    unittest.main()
