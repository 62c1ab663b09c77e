"""Promise 4, steps: 0, then the steps at n up to n + k - 1."""

import unittest

from linesteps.slopes import height, steps
from tests.exact import CORNERS, SLOPES, true_height, true_steps


class WorkedOut(unittest.TestCase):
    def test_root_of_2(self):
        # The heights: 0, 1, 2, 4, 5, 7, 8, 9, 11, 12, 14
        self.assertEqual(steps(0, 1, 1, 2, 0, 10), [0, 1, 1, 2, 1, 2, 1, 1, 2, 1, 2])
        self.assertEqual(steps(0, 1, 1, 2, 3, 4), [0, 1, 2, 1, 1])

    def test_golden_slope(self):
        # The heights: 0, 1, 3, 4, 6, 8, 9, 11, 12
        self.assertEqual(steps(1, 1, 2, 5, 0, 8), [0, 1, 2, 1, 2, 2, 1, 2, 1])

    def test_fractions(self):
        # 7/3: 0, 2, 4, 7, 9, 11, 14; 5/8: 0, 0, 1, 1, 2, 3, 3, 4, 5; 5/6: 0, 0, 1, 2, 3, 4, 5
        self.assertEqual(steps(7, 0, 3, 2, 0, 6), [0, 2, 2, 3, 2, 2, 3])
        self.assertEqual(steps(5, 9, 8, 0, 0, 8), [0, 0, 1, 0, 1, 1, 0, 1, 1])
        self.assertEqual(steps(1, 2, 6, 4, 1, 6), [0, 1, 1, 1, 1, 1, 0])

    def test_below_0(self):
        # -7/3: 0, -3, -5, -7, -10; less root 2: 0, -2, -3, -5, -6, -8; 1 less root 2: 0, -1, -1, -2, -2, -3
        self.assertEqual(steps(-7, 0, 3, 2, 0, 4), [0, -3, -2, -2, -3])
        self.assertEqual(steps(0, -1, 1, 2, 0, 5), [0, -2, -1, -2, -1, -2])
        self.assertEqual(steps(1, -1, 1, 2, 0, 5), [0, -1, 0, -1, 0, -1])

    def test_whole_slopes(self):
        self.assertEqual(steps(0, 0, 1, 0, 5, 3), [0, 0, 0, 0])
        self.assertEqual(steps(-6, 3, 5, 4, 5, 3), [0, 0, 0, 0])
        self.assertEqual(steps(1000, 1000, 1, 961, 1000000, 3), [0, 32000, 32000, 32000])
        self.assertEqual(steps(-1000, -1000, 1, 961, 0, 2), [0, -32000, -32000])

    def test_flat(self):
        # 1/1000 steps up at 999, 1999, ...; -1/1000 steps down at 0, 1000, ...
        self.assertEqual(steps(1, 0, 1000, 0, 997, 4), [0, 0, 0, 1, 0])
        self.assertEqual(steps(-1, 0, 1000, 0, 998, 4), [0, 0, 0, -1, 0])
        self.assertEqual(steps(1, 0, 1000, 0, 700, 300), [0] + [0] * 299 + [1])


class Edges(unittest.TestCase):
    def test_k_1(self):
        for slope in SLOPES + CORNERS:
            self.assertEqual(steps(*slope, 0, 1), [0, true_height(*slope, 1)], slope)
            last = true_height(*slope, 1000001) - true_height(*slope, 1000000)
            self.assertEqual(steps(*slope, 1000000, 1), [0, last], slope)

    def test_k_300_at_both_ends(self):
        for slope in SLOPES + CORNERS:
            self.assertEqual(steps(*slope, 0, 300), [0] + true_steps(slope, 300), slope)
            heights = [true_height(*slope, n) for n in range(1000000, 1000301)]
            expected = [heights[i + 1] - heights[i] for i in range(300)]
            self.assertEqual(steps(*slope, 1000000, 300), [0] + expected, slope)

    def test_heights_beside(self):
        for slope in SLOPES:
            low = height(*slope, 700)[0]
            high = height(*slope, 950)[0]
            self.assertEqual(sum(steps(*slope, 700, 250)), high - low, slope)


class Definition(unittest.TestCase):
    def test_every_kind_of_slope(self):
        for slope in SLOPES:
            row = true_steps(slope, 700)
            for n in (0, 1, 2, 9, 100, 399, 400):
                for k in (1, 2, 3, 50, 299, 300):
                    self.assertEqual(steps(*slope, n, k), [0] + row[n:n + k], (slope, n, k))


class Exactness(unittest.TestCase):
    def test_beside_places_only_just_off_a_whole_number(self):
        # 195025 root 2 is only just above 275807, and 470832 root 2 only just below 665857.
        self.assertEqual(steps(0, 1, 1, 2, 195023, 4), [0, 1, 2, 1, 1])
        self.assertEqual(steps(0, 1, 1, 2, 470830, 4), [0, 1, 1, 2, 1])
        self.assertEqual(steps(0, -1, 1, 2, 195023, 4), [0, -1, -2, -1, -1])
        self.assertEqual(steps(0, -1, 1, 2, 470830, 4), [0, -1, -1, -2, -1])


class Form(unittest.TestCase):
    def test_0_and_k_whole_numbers_in_a_list(self):
        for slope in SLOPES:
            for n, k in ((0, 1), (0, 300), (17, 5), (1000000, 40)):
                answer = steps(*slope, n, k)
                self.assertIs(type(answer), list)
                self.assertEqual([type(x) for x in answer], [int] * (k + 1))
                self.assertEqual(answer[0], 0)

    def test_again_is_the_same(self):
        asked = [slope + (n, k) for slope in SLOPES for n, k in ((0, 1), (40, 30))]
        first = [steps(*each) for each in asked]
        for answer in [steps(*each) for each in asked]:
            answer.append(5)
        self.assertEqual([steps(*each) for each in reversed(asked)], first[::-1])


if __name__ == "__main__":
    unittest.main()
