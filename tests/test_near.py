"""Promise 8, near: 0, then the p and the q from 1 to most for which q times the slope is nearest to p."""

import unittest

from linesteps.slopes import near
from tests.exact import CORNERS, SLOPES, sign_of, true_heights

# Slopes for which two q, or the two p of one q, are as near up to less than 0.00000002, with b below 0 too.
CLOSE = (
    ((966, 940, 999, 995), 298), ((959, 972, 1000, 915), 241), ((433, 880, 1000, 717), 297),
    ((951, 968, 997, 717), 270), ((733, 956, 1000, 885), 237),
    ((-966, -940, 999, 995), 298), ((-959, -972, 1000, 915), 241), ((-433, -880, 1000, 717), 297),
    ((933, 995, 1000, 704), 3), ((-933, -995, 1000, 704), 3), ((317, 910, 1000, 776), 3), ((-317, -910, 1000, 776), 3),
    ((721, 925, 999, 966), 2), ((-721, -925, 999, 966), 2), ((904, 978, 999, 738), 2), ((-904, -978, 999, 738), 2),
)


def nearer(slope, p, q, other_p, other_q):
    """Is q times the slope nearer to p than other_q times it to other_p?  The distances' squares are compared."""
    a, b, c, d = slope
    x, y = q * a - p * c, q * b
    u, v = other_q * a - other_p * c, other_q * b
    return sign_of(x * x + y * y * d - u * u - v * v * d, 2 * x * y - 2 * u * v, d) < 0


def true_nearest(slope, most):
    """The answers of 1 up to most; p further off than these are further off by a whole 1."""
    heights = true_heights(slope, most + 1)
    best = (heights[1] - 1, 1)
    found = []
    for q in range(1, most + 1):
        for p in range(heights[q] - 1, heights[q] + 3):
            if nearer(slope, p, q, *best):
                best = (p, q)
        found.append([0, *best])
    return found


class WorkedOut(unittest.TestCase):
    def test_root_of_2(self):
        # 1.414, 2.828, 4.243, 5.657, 7.071, ..., 12 times: 16.971, 29 times: 41.012
        self.assertEqual(near(0, 1, 1, 2, 1), [0, 1, 1])
        self.assertEqual([near(0, 1, 1, 2, most) for most in (2, 3, 4)], [[0, 3, 2]] * 3)
        self.assertEqual([near(0, 1, 1, 2, most) for most in (5, 11)], [[0, 7, 5]] * 2)
        self.assertEqual([near(0, 1, 1, 2, most) for most in (12, 28)], [[0, 17, 12]] * 2)
        self.assertEqual(near(0, 1, 1, 2, 29), [0, 41, 29])
        self.assertEqual(near(0, 1, 1, 2, 300), [0, 239, 169])

    def test_below_0(self):
        self.assertEqual(near(0, -1, 1, 2, 1), [0, -1, 1])
        self.assertEqual(near(0, -1, 1, 2, 5), [0, -7, 5])
        # 1 less root 2: -0.414, -0.828, -1.243, -1.657, -2.071
        self.assertEqual([near(1, -1, 1, 2, most) for most in (1, 2, 5)], [[0, 0, 1], [0, -1, 2], [0, -2, 5]])

    def test_whole_slopes(self):
        for most in (1, 2, 300):
            self.assertEqual(near(0, 0, 1, 0, most), [0, 0, 1])
            self.assertEqual(near(-6, 3, 5, 4, most), [0, 0, 1])
            self.assertEqual(near(7, 1000, 7, 0, most), [0, 1, 1])
            self.assertEqual(near(1000, 1000, 1, 961, most), [0, 32000, 1])
            self.assertEqual(near(-1000, -1000, 1, 961, most), [0, -32000, 1])

    def test_fractions(self):
        # 7/3; (1 + 2 times the root of 4) / 6 is 5/6; (4 + 2 times the root of 9) / 6 is 5/3
        self.assertEqual([near(7, 0, 3, 2, most) for most in (1, 2, 3, 300)], [[0, 2, 1]] * 2 + [[0, 7, 3]] * 2)
        self.assertEqual([near(1, 2, 6, 4, most) for most in (1, 5, 6, 300)], [[0, 1, 1]] * 2 + [[0, 5, 6]] * 2)
        self.assertEqual([near(4, 2, 6, 9, most) for most in (1, 3, 6)], [[0, 2, 1], [0, 5, 3], [0, 5, 3]])
        self.assertEqual([near(-7, 5, 3, 0, most) for most in (1, 2, 3)], [[0, -2, 1], [0, -2, 1], [0, -7, 3]])


class AsNear(unittest.TestCase):
    def test_least_p(self):
        self.assertEqual(near(1, 0, 2, 0, 1), [0, 0, 1])
        self.assertEqual(near(3, 0, 2, 0, 1), [0, 1, 1])
        self.assertEqual(near(-1, 0, 2, 0, 1), [0, -1, 1])
        self.assertEqual(near(-3, 0, 2, 0, 1), [0, -2, 1])
        self.assertEqual(near(-5, 2, 2, 9, 1), [0, 0, 1])
        self.assertEqual(near(1, 0, 2, 0, 2), [0, 1, 2])
        self.assertEqual(near(-1, 0, 2, 0, 2), [0, -1, 2])

    def test_least_q(self):
        # 1/3 and 2/3: 1/3 off at 1 and at 2; 2/5: 1/5 off at 2 and at 3; 1/4: 1/4 off at 1 and at 3
        self.assertEqual(near(1, 0, 3, 0, 2), [0, 0, 1])
        self.assertEqual(near(2, 0, 3, 0, 2), [0, 1, 1])
        self.assertEqual(near(-1, 0, 3, 0, 2), [0, 0, 1])
        self.assertEqual([near(2, 0, 5, 0, most) for most in (1, 2, 3, 4)], [[0, 0, 1]] + [[0, 1, 2]] * 3)
        self.assertEqual([near(1, 0, 4, 0, most) for most in (1, 2, 3)], [[0, 0, 1]] * 3)
        # -7/1000: 0.007 off at 1, 0.006 at 142, 0.001 at 143
        self.assertEqual([near(-7, 0, 1000, 0, most) for most in (1, 141)], [[0, 0, 1]] * 2)
        self.assertEqual([near(-7, 0, 1000, 0, most) for most in (142, 143)], [[0, -1, 142], [0, -1, 143]])

    def test_least_q_of_those_that_hit(self):
        self.assertEqual(near(3, 0, 150, 0, 300), [0, 1, 50])
        self.assertEqual(near(-3, 0, 100, 0, 300), [0, -3, 100])
        self.assertEqual(near(1, 2, 300, 4, 300), [0, 1, 60])


class Definition(unittest.TestCase):
    def test_every_p_and_q(self):
        for slope in SLOPES + CORNERS:
            expected = true_nearest(slope, 300)
            for most in (1, 2, 3, 4, 7, 20, 99, 299, 300):
                self.assertEqual(near(*slope, most), expected[most - 1], (slope, most))

    def test_every_fraction_with_a_small_c(self):
        for c in range(1, 13):
            for a in range(-c, c + 1):
                expected = true_nearest((a, 0, c, 7), 14)
                self.assertEqual([near(a, 0, c, 7, most) for most in range(1, 15)], expected, (a, c))

    def test_every_most(self):
        for slope in ((0, 1, 1, 2), (-3, -2, 7, 3), (499, 0, 1000, 0), (32, -1, 1000, 999)):
            expected = true_nearest(slope, 300)
            self.assertEqual([near(*slope, most) for most in range(1, 301, 7)], expected[::7], slope)


class Exactness(unittest.TestCase):
    def test_distances_that_differ_very_little(self):
        for slope, q in CLOSE:
            expected = true_nearest(slope, q)
            for most in (1, q - 2, q - 1, q):
                if most > 0:
                    self.assertEqual(near(*slope, most), expected[most - 1], (slope, most))

    def test_beside_a_half(self):
        # 29 times the root of 925 is just above 882 (777925, 777924), 44 times that of 485 just below 969.
        self.assertEqual(near(-382, 29, 1000, 925, 1), [0, 1, 1])
        self.assertEqual(near(-469, 44, 1000, 485, 1), [0, 0, 1])
        self.assertEqual(near(382, -29, 1000, 925, 1), [0, -1, 1])
        self.assertEqual(near(469, -44, 1000, 485, 1), [0, 0, 1])

    def test_beside_thirds(self):
        # 27.33333333122... is nearer at 1 than at 2, 25.66666666447... nearer at 2 than at 1.
        self.assertEqual(near(933, 995, 1000, 704, 2), [0, 27, 1])
        self.assertEqual(near(-933, -995, 1000, 704, 2), [0, -27, 1])
        self.assertEqual(near(317, 910, 1000, 776, 2), [0, 51, 2])
        self.assertEqual(near(-317, -910, 1000, 776, 2), [0, -51, 2])


class Form(unittest.TestCase):
    def test_0_and_two_whole_numbers_in_a_list(self):
        for slope in SLOPES:
            for most in (1, 2, 300):
                answer = near(*slope, most)
                self.assertIs(type(answer), list)
                self.assertEqual([type(x) for x in answer], [int] * 3)
                self.assertEqual(answer[0], 0)
                self.assertTrue(1 <= answer[2] <= most)

    def test_again_is_the_same(self):
        asked = [slope + (most,) for slope in SLOPES for most in (1, 5, 60)]
        first = [near(*each) for each in asked]
        for answer in [near(*each) for each in asked]:
            answer.append(5)
        self.assertEqual([near(*each) for each in reversed(asked)], first[::-1])


if __name__ == "__main__":
    unittest.main()
