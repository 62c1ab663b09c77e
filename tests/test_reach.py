"""Promise 2, reach: the first place from 0 to 1000000 whose height is m or more, or -1."""

import unittest

from linesteps.slopes import reach
from tests.exact import CORNERS, ROOTS, SLOPES, true_height, true_heights

LEAST = -9223372036854775808
MOST = 9223372036854775807


def reached(slope, ms):
    return [reach(*slope, m)[0] for m in ms]


def first_so_high(heights, m):
    for n, h in enumerate(heights):
        if h >= m:
            return n
    return None


class WorkedOut(unittest.TestCase):
    def test_root_of_2(self):
        # The heights: 0, 1, 2, 4, 5, 7, 8, 9, 11, 12, 14
        self.assertEqual(reached((0, 1, 1, 2), range(15)), [0, 1, 2, 3, 3, 4, 5, 5, 6, 7, 8, 8, 9, 10, 10])

    def test_golden_slope(self):
        # The heights: 0, 1, 3, 4, 6, 8, 9, 11
        self.assertEqual(reached((1, 1, 2, 5), range(12)), [0, 1, 2, 2, 3, 4, 4, 5, 5, 6, 7, 7])

    def test_b_below_0(self):
        # 2 less root 2: 0, 0, 1, 1, 2, 2
        self.assertEqual(reached((2, -1, 1, 2), range(3)), [0, 2, 4])

    def test_fractions(self):
        # 7/3: 0, 2, 4, 7, 9, 11, 14; 5/8: 0, 0, 1, 1, 2, 3; 5/6: 0, 0, 1, 2, 3, 4, 5
        self.assertEqual(reached((7, 0, 3, 2), range(15)), [0, 1, 1, 2, 2, 3, 3, 3, 4, 4, 5, 5, 6, 6, 6])
        self.assertEqual(reached((5, 9, 8, 0), range(4)), [0, 2, 4, 5])
        self.assertEqual(reached((1, 2, 6, 4), range(6)), [0, 2, 3, 4, 5, 6])

    def test_whole_slopes(self):
        self.assertEqual(reached((1, 0, 1, 0), (0, 1, 2, 2999)), [0, 1, 2, 2999])
        self.assertEqual(reached((-6, 5, 2, 4), (1, 2, 3, 4, 5, 5998)), [1, 1, 2, 2, 3, 2999])

    def test_passed_but_not_hit(self):
        # 100 times root 2 steps by 141 or 142: 141, 282, 424
        self.assertEqual(reached((0, 100, 1, 2), (1, 140, 141, 142, 282, 283, 424, 425)), [1, 1, 1, 2, 2, 3, 3, 4])

    def test_just_as_high(self):
        self.assertEqual(reached((7, 0, 1000, 5), (6, 7, 8)), [858, 1000, 1143])
        self.assertEqual(reached((0, 1, 1000, 4), (1, 2, 5)), [500, 1000, 2500])


class FromZero(unittest.TestCase):
    def test_0_and_below(self):
        for slope in SLOPES + CORNERS:
            self.assertEqual(reached(slope, (0, -1, -2, -1000, LEAST)), [0, 0, 0, 0, 0], slope)


class NoSuchPlace(unittest.TestCase):
    def test_lines_that_do_not_rise(self):
        for slope in ((0, 0, 1, 0), (-6, 3, 5, 4), (-1, 0, 1000, 0), (0, -1, 1, 2), (1, -1, 1, 2), (-1, -1, 2, 5)):
            self.assertEqual(reached(slope, (1, 2, MOST)), [-1, -1, -1], slope)

    def test_beyond_the_last_place(self):
        self.assertEqual(reached((1, 0, 1, 0), (999999, 1000000, 1000001)), [999999, 1000000, -1])
        self.assertEqual(reached((1, 0, 1000, 0), (999, 1000, 1001)), [999000, 1000000, -1])
        # 1000000 times (1000 + 1000 times the root of 1000) is 32622776601.68...
        self.assertEqual(reached((1000, 1000, 1, 1000), (32622776601, 32622776602, MOST)), [1000000, -1, -1])


class Steep(unittest.TestCase):
    def test_steepest(self):
        # 1000 + 1000 times the root of 1000 is 32622.7766...
        self.assertEqual(
            reached((1000, 1000, 1, 1000), (1, 32622, 32623, 65245, 65246, 97835706)), [1, 1, 2, 2, 3, 2999]
        )
        self.assertEqual(reached((1000, 0, 1, 1000), (1, 1000, 1001, 2999000)), [1, 1, 2, 2999])

    def test_flat(self):
        self.assertEqual(reached((1, 0, 1000, 0), (1, 2)), [1000, 2000])
        self.assertEqual(reached((0, 1, 1000, 2), (1, 2, 3, 4)), [708, 1415, 2122, 2829])
        # 32 less the root of 999 is 0.39306...
        self.assertEqual(reached((32, -1, 1000, 999), (1,)), [2545])


class Definition(unittest.TestCase):
    def hold(self, slope, heights, at):
        for m in (heights[at] - 1, heights[at], heights[at] + 1):
            first = first_so_high(heights, m)
            if first is not None:
                self.assertEqual(reach(*slope, m), [first], (slope, m))

    def test_every_kind_of_slope(self):
        for slope in SLOPES + CORNERS:
            heights = true_heights(slope, 3000)
            for at in list(range(40)) + [500, 999, 1000, 1001, 2047, 2500, 2997, 2998, 2999]:
                self.hold(slope, heights, at)

    def test_every_m_of_a_few_slopes(self):
        for slope in ((3, 2, 7, 3), (-3, 2, 7, 3), (1, 1, 2, 5), (17, 0, 23, 0), (2, 1, 9, 9)):
            heights = true_heights(slope, 3000)
            expected = []
            for n, h in enumerate(heights):
                while len(expected) <= h:
                    expected.append(n)
            self.assertEqual(reached(slope, range(len(expected))), expected, slope)

    def test_far_out(self):
        for slope in ROOTS:
            for n in (4000, 99991, 999999):
                m = true_height(*slope, n)
                if m > 0:
                    found = reach(*slope, m)[0]
                    self.assertGreaterEqual(true_height(*slope, found), m)
                    self.assertLess(true_height(*slope, found - 1), m)


class Exactness(unittest.TestCase):
    def test_only_just_above_a_whole_number(self):
        # 985 root 2 = 1393.0003..., 1597 times the golden slope = 2584.0002...
        self.assertEqual(reach(0, 1, 1, 2, 1393), [985])
        self.assertEqual(reach(0, 1, 1, 2, 275807), [195025])
        self.assertEqual(reach(1, 1, 2, 5, 2584), [1597])
        self.assertEqual(reach(1, 1, 2, 5, 832040), [514229])

    def test_only_just_below_a_whole_number(self):
        # 408 root 2 = 576.999..., 2378 root 2 = 3362.9998..., 987 times the golden slope = 1596.9995...
        self.assertEqual(reach(0, 1, 1, 2, 577), [409])
        self.assertEqual(reach(0, 1, 1, 2, 3363), [2379])
        self.assertEqual(reach(0, 1, 1, 2, 665857), [470833])
        self.assertEqual(reach(1, 1, 2, 5, 1597), [988])


class Form(unittest.TestCase):
    def test_one_whole_number_in_a_list(self):
        for slope in SLOPES:
            for m in (LEAST, -1, 0, 1, 50, MOST):
                answer = reach(*slope, m)
                self.assertIs(type(answer), list)
                self.assertEqual([type(x) for x in answer], [int])

    def test_again_is_the_same(self):
        asked = [slope + (m,) for slope in SLOPES for m in (-3, 0, 1, 40)]
        first = [reach(*each) for each in asked]
        for answer in [reach(*each) for each in asked]:
            answer.append(5)
        self.assertEqual([reach(*each) for each in reversed(asked)], first[::-1])


if __name__ == "__main__":
    unittest.main()
