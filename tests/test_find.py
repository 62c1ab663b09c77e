"""Promise 5, find: the first place from 0 to 1000000 where w's numbers are the steps, or -1."""

import unittest
from unittest import mock

from linesteps import slopes
from linesteps.slopes import find, steps
from tests.exact import CORNERS, SLOPES, true_steps

# Slopes with rows of steps that first stand just below 3000.
LATE = ((-246, -530, 401, 865), (-670, 60, 959, 338), (-192, 136, 999, 2), (675, -255, 1000, 7))


def first_standing(row, w):
    for n in range(len(row)):
        if row[n:n + len(w)] == w:
            return n
    return None


def true_place(slope, w):
    return first_standing(true_steps(slope, 3064), w)


class WorkedOut(unittest.TestCase):
    def test_root_of_2(self):
        # The steps: 1, 1, 2, 1, 2, 1, 1, 2, 1, 2
        self.assertEqual(find(0, 1, 1, 2, [1]), [0])
        self.assertEqual(find(0, 1, 1, 2, [2]), [2])
        self.assertEqual(find(0, 1, 1, 2, [1, 1]), [0])
        self.assertEqual(find(0, 1, 1, 2, [1, 2]), [1])
        self.assertEqual(find(0, 1, 1, 2, [2, 1]), [2])

    def test_fractions(self):
        # 7/3: 2, 2, 3, 2, 2, 3; 5/8: 0, 1, 0, 1, 1, 0, 1, 1; 5/6: 0, 1, 1, 1, 1, 1, 0
        self.assertEqual(find(7, 0, 3, 2, [3, 2, 2, 3]), [2])
        self.assertEqual(find(5, 9, 8, 0, [1, 1, 0, 1, 1, 0]), [3])
        self.assertEqual(find(1, 2, 6, 4, [1, 1, 0]), [4])

    def test_below_0(self):
        # -7/3: -3, -2, -2, -3; less root 2: -2, -1, -2, -1, -2, -1, -1
        self.assertEqual(find(-7, 0, 3, 2, [-2, -2]), [1])
        self.assertEqual(find(-7, 0, 3, 2, [-2, -3]), [2])
        self.assertEqual(find(0, -1, 1, 2, [-1, -2, -1, -1]), [3])

    def test_whole_slopes(self):
        self.assertEqual(find(0, 0, 1, 0, [0] * 64), [0])
        self.assertEqual(find(-6, 3, 5, 4, [0]), [0])
        self.assertEqual(find(1000, 1000, 1, 961, [32000, 32000]), [0])
        self.assertEqual(find(-1000, -1000, 1, 961, [-32000] * 64), [0])

    def test_flat(self):
        # 1/1000 steps up at 999, 1999, ...; -1/1000 steps down at 0, 1000, ...
        self.assertEqual(find(1, 0, 1000, 0, [1]), [999])
        self.assertEqual(find(1, 0, 1000, 0, [0] * 63 + [1]), [936])
        self.assertEqual(find(-1, 0, 1000, 0, [-1]), [0])
        self.assertEqual(find(-1, 0, 1000, 0, [0, -1]), [999])


class BeginningEarlier(unittest.TestCase):
    def test_root_of_2(self):
        # The steps: 1, 1, 2, 1, 2, 1, 1, 2, 1, 2; the beginnings stand at 2, at 0 and at 1 already.
        self.assertEqual(find(0, 1, 1, 2, [2, 1, 1]), [4])
        self.assertEqual(find(0, 1, 1, 2, [1, 2, 1, 1]), [3])
        self.assertEqual(find(0, 1, 1, 2, [2, 1, 2, 1, 2]), [true_place((0, 1, 1, 2), [2, 1, 2, 1, 2])])

    def test_all_but_the_last_number(self):
        held = 0
        for slope in SLOPES + LATE:
            row = true_steps(slope, 3064)
            for k in (2, 5, 20, 64):
                for n in range(2999, -1, -1):
                    w = row[n:n + k]
                    if first_standing(row, w[:-1]) < first_standing(row, w):
                        self.assertEqual(find(*slope, w), [first_standing(row, w)], (slope, w))
                        held += 1
                        break
        self.assertGreater(held, 100)


class Definition(unittest.TestCase):
    def test_rows_of_the_line_itself(self):
        for slope in SLOPES + CORNERS:
            row = true_steps(slope, 3064)
            for n in (0, 1, 2, 77, 500, 1234, 2999):
                for k in (1, 2, 7, 64):
                    w = row[n:n + k]
                    self.assertEqual(find(*slope, w), [first_standing(row, w)], (slope, n, k))

    def test_each_row_that_is_new(self):
        for slope in ((0, 1, 1, 2), (-3, -2, 7, 3), (17, 0, 23, 0), (32, -1, 1000, 999)):
            row = true_steps(slope, 3064)
            for k in (1, 3, 12):
                first = {}
                for n in range(3000):
                    first.setdefault(tuple(row[n:n + k]), n)
                for w, n in first.items():
                    self.assertEqual(find(*slope, list(w)), [n], (slope, w))


class JustBelow3000(unittest.TestCase):
    def test_rows_of_64(self):
        for slope, places in ((LATE[0], range(2990, 3000)), (LATE[1], range(2994, 3000))):
            for n in places:
                self.assertEqual(find(*slope, steps(*slope, n, 64)[1:]), [n], (slope, n))

    def test_one_number(self):
        # The first height that is not 0 is at 3000.
        self.assertEqual(find(-192, 136, 999, 2, [1]), [2999])
        self.assertEqual(find(675, -255, 1000, 7, [1]), [2999])
        self.assertEqual(find(675, -255, 1000, 7, [0, 1, 0]), [2998])

    def test_far_out(self):
        # 1000 less 127 times the root of 62 is 0.00100000025...
        self.assertEqual(find(1000, -127, 50, 62, [1]), [49999])


class NoSuchPlace(unittest.TestCase):
    def test_looks_to_the_end(self):
        self.assertEqual(find(0, 0, 1, 0, [1]), [-1])

    def test_the_last_place_counts(self):
        # The steps of 1/7: six times 0, then 1.
        for last, answer in ((5, -1), (6, 6), (7, 6)):
            with mock.patch.object(slopes, "LAST", last):
                self.assertEqual(find(1, 0, 7, 0, [1, 0, 0]), [answer], last)

    def test_numbers_at_the_ends_of_their_range(self):
        with mock.patch.object(slopes, "LAST", 100):
            self.assertEqual(find(0, 1, 1, 2, [1, 2147483647]), [-1])
            self.assertEqual(find(0, 1, 1, 2, [-2147483648] * 64), [-1])


class Form(unittest.TestCase):
    def test_w_is_as_it_was(self):
        for slope in SLOPES:
            for n, k in ((0, 1), (50, 3), (90, 64)):
                w = steps(*slope, n, k)[1:]
                copy = list(w)
                find(*slope, w)
                self.assertEqual(w, copy)

    def test_w_is_not_touched_for_a_while_either(self):
        class Watched(list):
            def refuse(self, *others):
                raise AssertionError("w is changed")
            append = extend = insert = pop = remove = clear = sort = reverse = refuse
            __setitem__ = __delitem__ = __iadd__ = __imul__ = refuse

        self.assertEqual(find(0, 1, 1, 2, Watched([2, 1, 1])), [4])

    def test_one_whole_number_in_a_list(self):
        for slope in SLOPES:
            for n, k in ((0, 1), (50, 3), (90, 64)):
                answer = find(*slope, steps(*slope, n, k)[1:])
                self.assertIs(type(answer), list)
                self.assertEqual([type(x) for x in answer], [int])

    def test_again_is_the_same(self):
        asked = [slope + (steps(*slope, n, 6)[1:],) for slope in SLOPES for n in (0, 8, 200)]
        first = [find(*each) for each in asked]
        for answer in [find(*each) for each in asked]:
            answer.append(5)
        self.assertEqual([find(*each) for each in reversed(asked)], first[::-1])


if __name__ == "__main__":
    unittest.main()
