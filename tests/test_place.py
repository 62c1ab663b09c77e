"""Promise 3, place: the first place from 1 to 1000000 whose height is m, or 0."""

import unittest

from linesteps.slopes import place
from tests.exact import CORNERS, SLOPES, true_heights

LEAST = -9223372036854775808
MOST = 9223372036854775807


def placed(slope, ms):
    return [place(*slope, m)[0] for m in ms]


class WorkedOut(unittest.TestCase):
    def test_root_of_2(self):
        # The heights: 0, 1, 2, 4, 5, 7, 8, 9, 11, 12, 14
        self.assertEqual(placed((0, 1, 1, 2), (1, 2, 4, 5, 7, 8, 9, 11, 12, 14)), [1, 2, 3, 4, 5, 6, 7, 8, 9, 10])

    def test_fractions(self):
        # 7/3: 0, 2, 4, 7, 9, 11, 14; 5/8: 0, 0, 1, 1, 2, 3; 5/6: 0, 0, 1, 2, 3, 4, 5
        self.assertEqual(placed((7, 0, 3, 2), (2, 4, 7, 9, 11, 14)), [1, 2, 3, 4, 5, 6])
        self.assertEqual(placed((5, 9, 8, 0), (0, 1, 2, 3)), [1, 2, 4, 5])
        self.assertEqual(placed((1, 2, 6, 4), (0, 1, 2, 3, 4, 5)), [1, 2, 3, 4, 5, 6])

    def test_whole_slopes(self):
        self.assertEqual(placed((1, 0, 1, 0), (1, 2, 2999)), [1, 2, 2999])
        self.assertEqual(placed((-6, 5, 2, 4), (2, 4, 5998)), [1, 2, 2999])
        self.assertEqual(placed((-1, 0, 1, 0), (-1, -2, -2999)), [1, 2, 2999])

    def test_below_0(self):
        # -7/3: 0, -3, -5, -7, -10; less root 2: 0, -2, -3, -5, -6, -8; 1 less root 2: 0, -1, -1, -2, -2, -3
        self.assertEqual(placed((-7, 0, 3, 2), (-3, -5, -7, -10)), [1, 2, 3, 4])
        self.assertEqual(placed((0, -1, 1, 2), (-2, -3, -5, -6, -8)), [1, 2, 3, 4, 5])
        self.assertEqual(placed((1, -1, 1, 2), (-1, -2, -3)), [1, 3, 5])
        self.assertEqual(placed((-2, 1, 1, 2), (-1, -2, -3)), [1, 2, 4])


class FirstOfSeveral(unittest.TestCase):
    def test_rising(self):
        self.assertEqual(placed((1, 0, 3, 0), (0, 1, 2, 3)), [1, 3, 6, 9])
        self.assertEqual(placed((1, 0, 1000, 0), (0, 1, 2)), [1, 1000, 2000])
        self.assertEqual(placed((0, 1, 1000, 2), (0, 1, 2, 3, 4)), [1, 708, 1415, 2122, 2829])

    def test_falling(self):
        self.assertEqual(placed((-1, 0, 3, 0), (-1, -2, -3)), [1, 4, 7])
        self.assertEqual(placed((-1, 0, 1000, 0), (-1, -2, -3)), [1, 1001, 2001])
        self.assertEqual(placed((0, -1, 1000, 2), (-1, -2, -3, -4, -5)), [1, 708, 1415, 2122, 2829])


class HeightZero(unittest.TestCase):
    def test_looks_from_1_on(self):
        for slope in ((0, 0, 1, 0), (-6, 3, 5, 4), (0, 0, 1000, 1000), (1, 0, 1000, 0), (-1, 1, 1, 2), (2, -1, 1, 2)):
            self.assertEqual(place(*slope, 0), [1], slope)

    def test_place_0_does_not_count(self):
        for slope in ((1, 0, 1, 0), (0, 1, 1, 2), (1000, 1000, 1, 1000), (-1, 0, 1000, 0), (1, -1, 1, 2)):
            self.assertEqual(place(*slope, 0), [0], slope)


class NoSuchPlace(unittest.TestCase):
    def test_passed_but_not_hit(self):
        self.assertEqual(placed((0, 1, 1, 2), (3, 6, 10, 13)), [0, 0, 0, 0])
        self.assertEqual(placed((0, -1, 1, 2), (-1, -4, -7)), [0, 0, 0])
        self.assertEqual(placed((-1000, 0, 1, 0), (-999, -1001)), [0, 0])

    def test_on_the_other_side(self):
        self.assertEqual(placed((0, 1, 1, 2), (-1, -2, LEAST)), [0, 0, 0])
        self.assertEqual(placed((0, -1, 1, 2), (1, 2, MOST)), [0, 0, 0])
        self.assertEqual(placed((0, 0, 1, 0), (-1, 1, LEAST, MOST)), [0, 0, 0, 0])

    def test_beyond_the_last_place(self):
        self.assertEqual(placed((1, 0, 1, 0), (999999, 1000000, 1000001, MOST)), [999999, 1000000, 0, 0])
        self.assertEqual(placed((-1, 0, 1, 0), (-999999, -1000000, -1000001, LEAST)), [999999, 1000000, 0, 0])
        self.assertEqual(placed((1, 0, 1000, 0), (1000, 1001)), [1000000, 0])
        self.assertEqual(placed((1000, 1000, 1, 1000), (32622776601, MOST)), [1000000, 0])
        self.assertEqual(placed((-1000, -1000, 1, 1000), (-32622776602, LEAST)), [1000000, 0])


class Definition(unittest.TestCase):
    def test_every_height_below_3000(self):
        for slope in SLOPES + CORNERS:
            heights = true_heights(slope, 3000)
            first = {}
            for n in range(1, 3000):
                first.setdefault(heights[n], n)
            for n in list(range(1, 40)) + [500, 999, 1000, 1001, 2047, 2500, 2997, 2998, 2999]:
                self.assertEqual(place(*slope, heights[n]), [first[heights[n]]], (slope, heights[n]))

    def test_every_m_of_a_few_slopes(self):
        for slope in ((3, 2, 7, 3), (-3, -2, 7, 3), (1, 1, 2, 5), (-17, 0, 23, 0), (31, 1, 9, 9)):
            heights = true_heights(slope, 3000)[1:]
            end = heights[-1]
            for m in range(min(0, end), max(0, end)):
                expected = heights.index(m) + 1 if m in heights else 0
                self.assertEqual(place(*slope, m), [expected], (slope, m))


class Exactness(unittest.TestCase):
    def test_only_just_above_a_whole_number(self):
        # 985 root 2 = 1393.0003..., 1597 times the golden slope = 2584.0002...
        self.assertEqual(placed((0, 1, 1, 2), (1393, 275807)), [985, 195025])
        self.assertEqual(placed((0, -1, 1, 2), (-1394, -275808)), [985, 195025])
        self.assertEqual(placed((1, 1, 2, 5), (2584, 832040)), [1597, 514229])

    def test_only_just_below_a_whole_number(self):
        # 408 root 2 = 576.999..., 2378 root 2 = 3362.9998...
        self.assertEqual(placed((0, 1, 1, 2), (576, 577, 3362, 3363)), [408, 0, 2378, 0])
        self.assertEqual(placed((0, -1, 1, 2), (-577, -578, -3363, -3364)), [408, 0, 2378, 0])


class Form(unittest.TestCase):
    def test_one_whole_number_in_a_list(self):
        for slope in SLOPES:
            for m in (LEAST, -1, 0, 1, 50, MOST):
                answer = place(*slope, m)
                self.assertIs(type(answer), list)
                self.assertEqual([type(x) for x in answer], [int])

    def test_again_is_the_same(self):
        asked = [slope + (m,) for slope in SLOPES for m in (-3, 0, 1, 40)]
        first = [place(*each) for each in asked]
        for answer in [place(*each) for each in asked]:
            answer.append(5)
        self.assertEqual([place(*each) for each in reversed(asked)], first[::-1])


if __name__ == "__main__":
    unittest.main()
