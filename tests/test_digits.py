"""Promise 7, digits: how many digits of the slope are told, then they, the first k or all."""

import unittest
from fractions import Fraction
from math import isqrt

from linesteps.slopes import digits
from tests.exact import CORNERS, FRACTIONS, ROOTS, SLOPES, at_most_line


def fraction_of(a, b, c, d):
    """The slope as a fraction; only where b is 0 or d is a square."""
    return Fraction(a + b * isqrt(d), c)


def true_digits(value, k):
    told = []
    while len(told) < k:
        whole = value.numerator // value.denominator
        told.append(whole)
        value -= whole
        if value == 0:
            break
        value = 1 / value
    return told


def value_of(told):
    value = Fraction(told[-1])
    for digit in reversed(told[:-1]):
        value = digit + 1 / value
    return value


def below(value, slope):
    """Is the fraction no more than the slope?"""
    return at_most_line(value.numerator, *slope, value.denominator)


class WorkedOut(unittest.TestCase):
    def test_roots(self):
        self.assertEqual(digits(0, 1, 1, 2, 5), [5, 1, 2, 2, 2, 2])
        self.assertEqual(digits(1, 1, 2, 5, 4), [4, 1, 1, 1, 1])
        self.assertEqual(digits(0, 1, 1, 7, 9), [9, 2, 1, 1, 1, 4, 1, 1, 1, 4])
        # (-3 + 2 root 3) / 7 is 0.0663..., 1 by it is 15.08...
        self.assertEqual(digits(-3, 2, 7, 3, 5), [5, 0, 15, 12, 16, 12])

    def test_roots_below_0(self):
        # less root 2: -2, 2 less root 2 is left; 1 by it is 1 + root 2 / 2; 1 by root 2 / 2 is root 2
        self.assertEqual(digits(0, -1, 1, 2, 6), [6, -2, 1, 1, 2, 2, 2])
        self.assertEqual(digits(1, -1, 1, 2, 6), [6, -1, 1, 1, 2, 2, 2])

    def test_fractions(self):
        self.assertEqual(digits(7, 0, 3, 2, 60), [2, 2, 3])
        self.assertEqual(digits(5, 9, 8, 0, 60), [5, 0, 1, 1, 1, 2])
        self.assertEqual(digits(1, 2, 6, 4, 60), [3, 0, 1, 5])
        self.assertEqual(digits(415, 0, 93, 0, 60), [4, 4, 2, 6, 7])
        self.assertEqual(digits(1, 0, 1000, 0, 60), [2, 0, 1000])

    def test_fractions_below_0(self):
        self.assertEqual(digits(-7, 0, 3, 2, 60), [3, -3, 1, 2])
        self.assertEqual(digits(1, -2, 6, 4, 60), [2, -1, 2])
        self.assertEqual(digits(-1, 0, 1000, 0, 60), [3, -1, 1, 999])

    def test_whole_slopes(self):
        self.assertEqual(digits(0, 0, 1, 0, 60), [1, 0])
        self.assertEqual(digits(0, 0, 1000, 1000, 1), [1, 0])
        self.assertEqual(digits(-6, 3, 5, 4, 60), [1, 0])
        self.assertEqual(digits(-6, 3, 4, 16, 60), [2, 1, 2])
        self.assertEqual(digits(1000, 1000, 1, 961, 60), [1, 32000])
        self.assertEqual(digits(-1000, -1000, 1, 961, 60), [1, -32000])

    def test_common_factor(self):
        self.assertEqual(digits(830, 0, 186, 0, 60), [4, 4, 2, 6, 7])
        self.assertEqual(digits(2, 2, 6, 9, 60), [2, 1, 3])
        self.assertEqual(digits(0, 2, 2, 2, 4), [4, 1, 2, 2, 2])
        # the root of 8 is 2 times the root of 2
        self.assertEqual(digits(0, 500, 1000, 8, 4), [4, 1, 2, 2, 2])


class HowMany(unittest.TestCase):
    def test_more_and_just_and_fewer_than_k(self):
        told = [4, 2, 6, 7]
        for k in range(1, 61):
            self.assertEqual(digits(415, 0, 93, 0, k), [min(k, 4)] + told[:k], k)

    def test_many_digits_of_a_fraction(self):
        # 987 and 610 follow one another among 1, 2, 3, 5, 8, 13, ...
        for k in (1, 12, 13):
            self.assertEqual(digits(987, 0, 610, 0, k), [k] + [1] * k)
        for k in (14, 15, 60):
            self.assertEqual(digits(987, 0, 610, 0, k), [14] + [1] * 13 + [2])

    def test_roots_have_no_last_digit(self):
        for slope in ROOTS:
            whole = digits(*slope, 60)
            self.assertEqual(whole[0], 60, slope)
            for k in (1, 2, 3, 30, 59):
                self.assertEqual(digits(*slope, k), [k] + whole[1:k + 1], (slope, k))


class Definition(unittest.TestCase):
    def hold_root(self, slope, k):
        answer = digits(*slope, k)
        told = answer[1:]
        self.assertEqual(answer[0], k, slope)
        self.assertEqual(len(told), k, slope)
        self.assertTrue(all(digit >= 1 for digit in told[1:]), slope)
        # All digits are right just if the slope lies between these two, of which it is neither.
        ends = (value_of(told), value_of(told[:-1] + [told[-1] + 1]))
        self.assertTrue(below(min(ends), slope), (slope, told))
        self.assertFalse(below(max(ends), slope), (slope, told))

    def test_fractions(self):
        for slope in FRACTIONS:
            for k in (1, 2, 3, 4, 5, 6, 7, 60):
                expected = true_digits(fraction_of(*slope), k)
                self.assertEqual(digits(*slope, k), [len(expected)] + expected, (slope, k))

    def test_every_fraction_with_a_small_c(self):
        for c in range(1, 30):
            for a in range(-2 * c, 2 * c + 1):
                expected = true_digits(Fraction(a, c), 60)
                self.assertEqual(digits(a, 0, c, 5, 60), [len(expected)] + expected, (a, c))
                self.assertEqual(digits(a - 6, 2, c, 9, 60), [len(expected)] + expected, (a, c))
                self.assertEqual(digits(a + 6, -2, c, 9, 60), [len(expected)] + expected, (a, c))

    def test_roots(self):
        for slope in ROOTS + ((-969, 44, 1000, 485), (969, -44, 1000, 485), (1000, -127, 50, 62)):
            for k in (1, 2, 3, 4, 11, 60):
                self.hold_root(slope, k)

    def test_many_roots(self):
        for d in (2, 3, 5, 6, 61, 97, 991, 999, 1000):
            for a in (-1000, -7, 0, 13, 999):
                for b in (-1000, -3, 1, 8, 997):
                    for c in (1, 2, 9, 840, 997, 1000):
                        self.hold_root((a, b, c, d), 60)

    def test_corners(self):
        for slope in CORNERS:
            for k in (1, 60):
                if slope[1] != 0 and slope[3] != 0:
                    self.hold_root(slope, k)
                else:
                    expected = true_digits(Fraction(slope[0], slope[2]), k)
                    self.assertEqual(digits(*slope, k), [len(expected)] + expected, (slope, k))


class Form(unittest.TestCase):
    def test_whole_numbers_in_a_list_behind_how_many(self):
        for slope in SLOPES:
            for k in (1, 2, 7, 60):
                answer = digits(*slope, k)
                self.assertIs(type(answer), list)
                self.assertEqual({type(x) for x in answer}, {int})
                self.assertEqual(answer[0], len(answer) - 1)
                self.assertTrue(1 <= answer[0] <= k)

    def test_again_is_the_same(self):
        asked = [slope + (k,) for slope in SLOPES for k in (1, 5, 60)]
        first = [digits(*each) for each in asked]
        for answer in [digits(*each) for each in asked]:
            answer.append(5)
        self.assertEqual([digits(*each) for each in reversed(asked)], first[::-1])


if __name__ == "__main__":
    unittest.main()
