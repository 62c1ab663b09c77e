"""Promise 1, height: n times the slope, rounded down."""

import unittest
from fractions import Fraction
from math import floor

from linesteps.slopes import height
from tests.exact import FRACTIONS, ROOTS, SLOPES, is_height

WHOLE_ROOTS = {0: 0, 1: 1, 4: 2, 9: 3, 961: 31}


def heights(a, b, c, d, count):
    return [height(a, b, c, d, n)[0] for n in range(count)]


class WorkedOut(unittest.TestCase):
    def test_root_of_2(self):
        self.assertEqual(heights(0, 1, 1, 2, 11), [0, 1, 2, 4, 5, 7, 8, 9, 11, 12, 14])

    def test_root_of_3(self):
        self.assertEqual(heights(0, 1, 1, 3, 9), [0, 1, 3, 5, 6, 8, 10, 12, 13])

    def test_golden_slope(self):
        self.assertEqual(heights(1, 1, 2, 5, 11), [0, 1, 3, 4, 6, 8, 9, 11, 12, 14, 16])

    def test_roots_of_999_and_1000(self):
        self.assertEqual(heights(0, 1, 1, 999, 5), [0, 31, 63, 94, 126])
        self.assertEqual(heights(0, 1, 1, 1000, 5), [0, 31, 63, 94, 126])
        self.assertEqual(height(0, 1, 1, 999, 1000), [31606])
        self.assertEqual(height(0, 1, 1, 1000, 1000), [31622])

    def test_fractions(self):
        self.assertEqual(heights(7, 0, 3, 2, 7), [0, 2, 4, 7, 9, 11, 14])
        self.assertEqual(heights(5, 9, 8, 0, 9), [0, 0, 1, 1, 2, 3, 3, 4, 5])
        self.assertEqual(heights(1, 2, 6, 4, 7), [0, 0, 1, 2, 3, 4, 5])
        self.assertEqual(heights(0, 1, 2, 9, 5), [0, 1, 3, 4, 6])
        self.assertEqual(heights(0, 1, 10, 961, 5), [0, 3, 6, 9, 12])

    def test_slope_0(self):
        self.assertEqual(heights(0, 0, 1, 0, 4), [0, 0, 0, 0])
        self.assertEqual(heights(0, 0, 1000, 1000, 4), [0, 0, 0, 0])
        self.assertEqual(heights(-6, 3, 5, 4, 4), [0, 0, 0, 0])


class BelowZero(unittest.TestCase):
    def test_rounded_down_not_towards_0(self):
        self.assertEqual(heights(-7, 0, 3, 2, 7), [0, -3, -5, -7, -10, -12, -14])
        self.assertEqual(heights(0, -1, 1, 2, 6), [0, -2, -3, -5, -6, -8])
        self.assertEqual(height(-1, 0, 1000, 0, 1), [-1])
        self.assertEqual(height(0, -1, 1000, 2, 1), [-1])

    def test_a_alone(self):
        self.assertEqual(heights(-1, 1, 1, 2, 6), [0, 0, 0, 1, 1, 2])
        self.assertEqual(heights(-2, 1, 1, 2, 6), [0, -1, -2, -2, -3, -3])

    def test_b_alone(self):
        self.assertEqual(heights(2, -1, 1, 2, 6), [0, 0, 1, 1, 2, 2])
        self.assertEqual(heights(1, -1, 1, 2, 6), [0, -1, -1, -2, -2, -3])

    def test_both(self):
        self.assertEqual(heights(-1, -1, 2, 5, 6), [0, -2, -4, -5, -7, -9])

    def test_squares_with_b_below_0(self):
        self.assertEqual(heights(0, -1, 2, 9, 5), [0, -2, -3, -5, -6])
        self.assertEqual(heights(1, -2, 6, 4, 5), [0, -1, -1, -2, -2])

    def test_two_sides_of_a_root_are_one_apart(self):
        for n in (1, 2, 999, 12345, 1000000):
            up = height(17, 23, 31, 7, n)[0]
            self.assertEqual(height(-17, -23, 31, 7, n), [-up - 1])


class WholePlaces(unittest.TestCase):
    def test_n_times_the_slope_is_whole(self):
        self.assertEqual(height(7, 0, 1000, 5, 1000), [7])
        self.assertEqual(height(-7, 0, 1000, 5, 1000), [-7])
        self.assertEqual(height(0, 1, 1000, 4, 500), [1])
        self.assertEqual(height(0, -1, 1000, 4, 500), [-1])
        self.assertEqual(height(3, -5, 1000, 961, 1000000), [-152000])
        self.assertEqual(height(0, -1000, 1, 961, 1000000), [-31000000000])

    def test_just_beside_a_whole_place(self):
        self.assertEqual(height(7, 0, 1000, 5, 999), [6])
        self.assertEqual(height(-7, 0, 1000, 5, 1001), [-8])
        self.assertEqual(height(0, 1, 1000, 4, 499), [0])
        self.assertEqual(height(0, -1, 1000, 4, 501), [-2])


class Edges(unittest.TestCase):
    def test_n_0(self):
        for slope in SLOPES:
            self.assertEqual(height(*slope, 0), [0], slope)

    def test_fractions_at_the_far_end(self):
        self.assertEqual(height(1000, 0, 1, 1000, 1000000), [1000000000])
        self.assertEqual(height(-1000, 0, 1, 1000, 1000000), [-1000000000])
        self.assertEqual(height(1000, 1000, 1, 0, 1000000), [1000000000])
        self.assertEqual(height(-1000, -1000, 1000, 0, 1000000), [-1000000])
        self.assertEqual(height(1000, 1000, 1000, 1, 1000000), [2000000])

    def test_roots_at_the_far_end(self):
        # The root of 1000 is 31.622776601683793319...
        self.assertEqual(height(1000, 1000, 1, 1000, 1000000), [32622776601])
        self.assertEqual(height(-1000, -1000, 1, 1000, 1000000), [-32622776602])
        self.assertEqual(height(-1000, 1000, 1, 1000, 1000000), [30622776601])
        self.assertEqual(height(1000, -1000, 1, 1000, 1000000), [-30622776602])
        self.assertEqual(height(1000, 1000, 1000, 1000, 1000000), [32622776])
        self.assertEqual(height(-1000, -1000, 1000, 1000, 1000000), [-32622777])

    def test_all_corners_hold_the_definition(self):
        for a in (-1000, -999, 0, 999, 1000):
            for b in (-1000, -999, 0, 999, 1000):
                for c in (1, 2, 999, 1000):
                    for d in (0, 1, 2, 961, 999, 1000):
                        for n in (0, 1, 2, 999999, 1000000):
                            found = height(a, b, c, d, n)[0]
                            self.assertTrue(is_height(found, a, b, c, d, n), (a, b, c, d, n, found))


# b, d, n, and the whole number that n b times the root of d is only just above.
JUST_ABOVE = (
    (1, 2, 195025, 275807), (1, 5, 930249, 2080100), (1, 999, 695018, 21967407), (1, 1000, 777526, 24587531),
    (229, 2, 982789, 318281039), (521, 3, 153931, 138907099), (233, 5, 135721, 70711162),
    (573, 999, 354983, 6429022141), (811, 999, 505622, 12960732897), (1000, 999, 686913, 21711232579),
    (898, 1000, 87064, 2472378469), (998, 991, 399537, 12552330709),
)
# The same for those that it is only just below.
JUST_BELOW = (
    (1, 2, 470832, 665857), (1, 3, 564719, 978122), (1, 999, 581935, 18393197), (1, 1000, 470957, 14892968),
    (706, 2, 132043, 131836323), (990, 2, 548828, 768398401), (992, 3, 412153, 708158977),
    (844, 5, 158717, 299537289), (988, 10, 479853, 1499219281), (780, 61, 289941, 1766319049),
    (993, 998, 31370, 984076901), (757, 994, 245052, 5848538095), (962, 1000, 246411, 7496096405),
)


class Exactness(unittest.TestCase):
    def test_only_just_above_a_whole_number(self):
        for b, d, n, whole in JUST_ABOVE:
            self.assertEqual(height(0, b, 1, d, n), [whole], (b, d, n))
            self.assertEqual(height(0, -b, 1, d, n), [-whole - 1], (-b, d, n))

    def test_only_just_below_a_whole_number(self):
        for b, d, n, whole in JUST_BELOW:
            self.assertEqual(height(0, b, 1, d, n), [whole - 1], (b, d, n))
            self.assertEqual(height(0, -b, 1, d, n), [-whole], (-b, d, n))

    def test_with_a_and_c_as_well(self):
        self.assertEqual(height(1, 1, 2, 5, 514229), [832040])
        self.assertEqual(height(1, 1, 2, 5, 832040), [1346268])
        self.assertEqual(height(999, 997, 1000, 998, 682463), [22176884])
        self.assertEqual(height(999, 997, 1000, 998, 387236), [12583374])
        self.assertEqual(height(7, -999, 1000, 991, 916066), [-28802647])
        self.assertEqual(height(7, -999, 1000, 991, 328429), [-10326358])
        self.assertEqual(height(-1000, -1000, 1, 1000, 535577), [-17472008825])


class Definition(unittest.TestCase):
    def test_every_kind_of_slope(self):
        for slope in SLOPES:
            for n in list(range(1, 120)) + [3000, 99991, 524288, 999999, 1000000]:
                found = height(*slope, n)[0]
                self.assertTrue(is_height(found, *slope, n), (slope, n, found))

    def test_every_d(self):
        for d in range(1001):
            for a, b, c, n in ((0, 1, 1, 1), (0, -1, 1, 1), (-13, 29, 17, 1003), (13, -29, 17, 999983)):
                found = height(a, b, c, d, n)[0]
                self.assertTrue(is_height(found, a, b, c, d, n), (a, b, c, d, n, found))

    def test_fractions_as_fractions(self):
        for a, b, c, d in FRACTIONS:
            slope = Fraction(a + b * WHOLE_ROOTS[d] if b else a, c)
            for n in list(range(60)) + [1000, 999999, 1000000]:
                self.assertEqual(height(a, b, c, d, n), [floor(n * slope)], (a, b, c, d, n))


class Form(unittest.TestCase):
    def test_one_whole_number_in_a_list(self):
        for slope in SLOPES:
            for n in (0, 1, 7, 1000000):
                answer = height(*slope, n)
                self.assertIs(type(answer), list)
                self.assertEqual([type(x) for x in answer], [int])

    def test_again_is_the_same(self):
        asked = [slope + (n,) for slope in ROOTS for n in (0, 3, 470832)]
        first = [height(*each) for each in asked]
        for answer in [height(*each) for each in asked]:
            answer.append(5)
        self.assertEqual([height(*each) for each in reversed(asked)], first[::-1])


if __name__ == "__main__":
    unittest.main()
