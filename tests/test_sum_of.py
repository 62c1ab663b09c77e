"""Promise 1, sum: the sum of the heights at 0, 1, ... up to n - 1."""

import unittest

from linesteps.slopes import height, sum_of
from tests.exact import ROOTS, SLOPES, true_height


class WorkedOut(unittest.TestCase):
    def test_n_0_and_1(self):
        for slope in SLOPES:
            self.assertEqual(sum_of(*slope, 0), [0], slope)
            self.assertEqual(sum_of(*slope, 1), [0], slope)

    def test_n_2_is_the_height_at_1(self):
        for slope in SLOPES:
            self.assertEqual(sum_of(*slope, 2), height(*slope, 1), slope)

    def test_root_of_2(self):
        # 0 + 1 + 2 + 4 + 5 + 7 + 8 + 9 + 11 + 12
        self.assertEqual([sum_of(0, 1, 1, 2, n)[0] for n in range(11)], [0, 0, 1, 3, 7, 12, 19, 27, 36, 47, 59])

    def test_below_0(self):
        # 0 - 2 - 3 - 5 - 6, and 0 - 3 - 5 - 7 - 10
        self.assertEqual(sum_of(0, -1, 1, 2, 5), [-16])
        self.assertEqual(sum_of(-7, 0, 3, 2, 5), [-25])

    def test_each_height_is_rounded_not_the_sum(self):
        # The first height that is not 0 is the one at 1000; below 0 they are -1 from 1 to 1000, then -2.
        self.assertEqual([sum_of(1, 0, 1000, 0, n)[0] for n in (1000, 1001, 1002)], [0, 1, 2])
        self.assertEqual([sum_of(-1, 0, 1000, 0, n)[0] for n in (1000, 1001, 1002)], [-999, -1000, -1002])

    def test_whole_slopes_to_the_end(self):
        ones = 3000 * 2999 // 2
        self.assertEqual(sum_of(1, 0, 1, 0, 3000), [ones])
        self.assertEqual(sum_of(-1000, 0, 1, 1000, 3000), [-1000 * ones])
        self.assertEqual(sum_of(1000, 1000, 1, 961, 3000), [32000 * ones])
        self.assertEqual(sum_of(1000, -1000, 1, 961, 3000), [-30000 * ones])
        self.assertEqual(sum_of(-6, 3, 5, 4, 3000), [0])


class Definition(unittest.TestCase):
    def test_sum_of_true_heights(self):
        for slope in SLOPES:
            total = 0
            for n in range(3001):
                if n < 40 or n in (100, 999, 1000, 2048, 2999, 3000):
                    self.assertEqual(sum_of(*slope, n), [total], (slope, n))
                total += true_height(*slope, n)

    def test_two_sides_of_a_root(self):
        # No place but 0 is whole, so the two heights at each other place make -1.
        for a, b, c, d in ROOTS:
            for n in (1, 2, 500, 3000):
                both = sum_of(a, b, c, d, n)[0] + sum_of(-a, -b, c, d, n)[0]
                self.assertEqual(both, 1 - n, (a, b, c, d, n))

    def test_two_lines_that_share_out_the_whole_numbers(self):
        # Each whole number from 1 on is a height of just one of the slopes root 2 and 2 + root 2.
        # 2999 times root 2 is 4241.2, and 1242 times (2 + root 2) is 4240.5, the next being beyond.
        self.assertEqual(height(0, 1, 1, 2, 2999), [4241])
        self.assertEqual(height(2, 1, 1, 2, 1242), [4240])
        self.assertEqual(height(2, 1, 1, 2, 1243), [4243])
        shared_out = sum_of(0, 1, 1, 2, 3000)[0] + sum_of(2, 1, 1, 2, 1243)[0]
        self.assertEqual(shared_out, 4241 * 4242 // 2)


class Form(unittest.TestCase):
    def test_one_whole_number_in_a_list(self):
        for slope in SLOPES:
            for n in (0, 1, 2, 50):
                answer = sum_of(*slope, n)
                self.assertIs(type(answer), list)
                self.assertEqual([type(x) for x in answer], [int])

    def test_again_is_the_same(self):
        asked = [slope + (n,) for slope in SLOPES for n in (0, 3, 200)]
        first = [sum_of(*each) for each in asked]
        for answer in [sum_of(*each) for each in asked]:
            answer.append(5)
        self.assertEqual([sum_of(*each) for each in reversed(asked)], first[::-1])


if __name__ == "__main__":
    unittest.main()
