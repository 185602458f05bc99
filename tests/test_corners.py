"""Promise 2, and the row "All:" as far as it speaks of corners."""

import contextlib
import io
import itertools
import unittest
from fractions import Fraction

from unparted.desk import corners, height

LEAST = -9223372036854775808
MOST = 9223372036854775807
NO_PRIMES = (0, 1, 4, 9, 49, 65535, 65536, 65537, 4294967291, 4294967295)


class Unchanged(list):
    """A list that can't be changed, not for a while either."""

    def refuse(self, *given, **named):
        raise AssertionError("what is handed in was to be changed")

    append = extend = insert = pop = remove = clear = sort = reverse = refuse
    __setitem__ = __delitem__ = __iadd__ = __imul__ = refuse


def times_divided(p, z):
    """How often p divides z, found from above: the greatest power of p that divides it."""
    return max(times for times in range(64) if z % p ** times == 0)


def corners_by_chords(n, p, f):
    """A point is a corner if it lies below every chord from a point on its left to one on its right."""
    points = [(place, times_divided(p, f[place])) for place in range(n + 1) if f[place] != 0]
    answer = []
    for at, (place, high) in enumerate(points):
        below = all(
            high < left[1] + Fraction(right[1] - left[1], right[0] - left[0]) * (place - left[0])
            for left in points[:at] for right in points[at + 1:]
        )
        if below:
            answer.append((place, high))
    return answer


def told(found):
    """The answer's form: how many corners, then of each its place and its height."""
    return [len(found)] + [number for corner in found for number in corner]


class OrdinaryPolynomials(unittest.TestCase):
    def check(self, p, f, answer):
        self.assertEqual(corners(len(f) - 1, p, f), answer, (p, f))

    def test_two_corners(self):
        self.check(2, [2, 0, 0, 1], [2, 0, 1, 3, 0])
        self.check(3, [6, 9, 3, 1], [2, 0, 1, 3, 0])
        self.check(2, [1, 1, 1], [2, 0, 0, 2, 0])
        self.check(5, [1, 5, 25, 25], [2, 0, 0, 3, 2])
        self.check(7, [3, 2], [2, 0, 0, 1, 0])

    def test_several_corners(self):
        self.check(2, [8, 2, 1], [3, 0, 3, 1, 1, 2, 0])
        self.check(2, [8, 4, 1, 1, 2, 8], [5, 0, 3, 2, 0, 3, 0, 4, 1, 5, 3])
        self.check(3, [27, 3, 9, 1, 3, 27], [5, 0, 3, 1, 1, 3, 0, 4, 1, 5, 3])
        self.check(2, [120, 120, 60, 20, 5, 1], [3, 0, 3, 4, 0, 5, 0])
        self.check(65521, [65521 ** 3, 65521, 2, 65521, 65521 ** 3],
                   [5, 0, 3, 1, 1, 2, 0, 3, 1, 4, 3])

    def test_rises_below_0(self):
        self.check(2, [16, 4, 2, 1], [3, 0, 4, 1, 2, 3, 0])
        self.check(5, [125, 5, 10, 5, 1], [3, 0, 3, 1, 1, 4, 0])
        self.check(2, [8, 8, 4, 2], [2, 0, 3, 3, 1])

    def test_rises_of_0(self):
        self.check(2, [1, 2, 3], [2, 0, 0, 2, 0])
        self.check(3, [9, 18, 36, 27, 9], [2, 0, 2, 4, 2])
        self.check(2, [2, 3, 6, 5, 4], [4, 0, 1, 1, 0, 3, 0, 4, 2])

    def test_rises_above_0(self):
        self.check(2, [1, 2, 8], [3, 0, 0, 1, 1, 2, 3])
        self.check(3, [2, 9, 9, 81], [3, 0, 0, 2, 2, 3, 4])
        self.check(2, [1, 4, 4, 16], [3, 0, 0, 2, 2, 3, 4])
        self.check(7, [7, 49], [2, 0, 1, 1, 2])

    def test_numbers_below_0(self):
        self.check(2, [-8, -2, -1], [3, 0, 3, 1, 1, 2, 0])
        self.check(3, [-6, 9, -3, 1], [2, 0, 1, 3, 0])
        self.check(5, [-1, -5, -125], [3, 0, 0, 1, 1, 2, 3])
        self.check(2, [6, -9, 18, -6, 1], [3, 0, 1, 1, 0, 4, 0])

    def test_rises_that_differ_little(self):
        # -2 by 3, -5 by 7 and -7 by 10: quotients cut to whole numbers would be the same.
        f = [2 ** 7, 0, 0, 2 ** 5, 0, 0, 0, 2 ** 2, 0, 0, 1]
        self.check(2, f, [3, 0, 7, 7, 2, 10, 0])
        # 1 by 3, then 1 by 2, then 2 by 3.
        f = [1, 0, 0, 2, 0, 4, 0, 0, 16]
        self.check(2, f, [4, 0, 0, 3, 1, 5, 2, 8, 4])

    def test_against_chords_for_short_ones(self):
        numbers = (0, 1, -2, 4, -8, 24)
        for n in range(1, 5):
            for f in itertools.product(numbers, repeat=n + 1):
                if f[0] == 0 or f[n] == 0:
                    continue
                f = list(f)
                self.assertEqual(corners(n, 2, f), told(corners_by_chords(n, 2, f)), f)

    def test_against_chords_for_long_ones(self):
        state = 1
        for n in range(1, 25):
            for p in (2, 3, 5, 257, 65521):
                f = []
                for place in range(n + 1):
                    state = (state * 1103515245 + 12345) % 2147483648
                    most = {2: 60, 3: 36, 5: 24, 257: 6, 65521: 2}[p]
                    times = state // 64 % (most + 1)
                    other = (state // 4096) % 5 - 2
                    f.append(p ** times * other)
                f[0] = f[0] or -p
                f[n] = f[n] or p
                self.assertEqual(corners(n, p, f), told(corners_by_chords(n, p, f)), (p, f))

    def test_every_corner_is_as_high_as_its_height(self):
        f = [96, -40, 0, 14, 22, 9, 0, 60, 256]
        answer = corners(8, 2, f)
        self.assertEqual(answer, [6, 0, 5, 1, 3, 3, 1, 5, 0, 7, 2, 8, 8])
        for k in range(answer[0]):
            self.assertEqual([answer[2 + 2 * k]], height(2, f[answer[1 + 2 * k]]))


class EquallyFlat(unittest.TestCase):
    def test_the_farthest_counts(self):
        for f, answer in [
            ([8, 4, 2, 1], [2, 0, 3, 3, 0]),
            ([1, 2, 4, 8, 16], [2, 0, 0, 4, 4]),
            ([3, 5, 7, 9, 11, 13], [2, 0, 0, 5, 0]),
            ([4, 0, 2, 0, 1], [2, 0, 2, 4, 0]),
            ([16, 4, 1, 1, 1, 2, 4], [4, 0, 4, 2, 0, 4, 0, 6, 2]),
        ]:
            self.assertEqual(corners(len(f) - 1, 2, f), answer, f)

    def test_a_steeper_place_between_changes_nothing(self):
        self.assertEqual(corners(4, 2, [4, 8, 2, 16, 1]), [2, 0, 2, 4, 0])
        self.assertEqual(corners(4, 3, [1, 27, 1, 9, 1]), [2, 0, 0, 4, 0])

    def test_along_all_24_places(self):
        f = [2 ** place for place in range(25)]
        self.assertEqual(corners(24, 2, f), [2, 0, 0, 24, 24])
        self.assertEqual(corners(24, 2, f[::-1]), [2, 0, 24, 24, 0])
        self.assertEqual(corners(24, 3, f), [2, 0, 0, 24, 0])


class PlacesOf0(unittest.TestCase):
    def test_they_have_no_point(self):
        for f, answer in [
            ([1, 0, 2], [2, 0, 0, 2, 1]),
            ([4, 0, 4], [2, 0, 2, 2, 2]),
            ([8, 0, 0, 1], [2, 0, 3, 3, 0]),
            ([8, 0, 1, 0, 8], [3, 0, 3, 2, 0, 4, 3]),
            ([2, 0, 0, 0, 2, 0, 1], [2, 0, 1, 6, 0]),
        ]:
            self.assertEqual(corners(len(f) - 1, 2, f), answer, f)

    def test_all_but_the_first_and_the_last(self):
        self.assertEqual(corners(24, 2, [2] + [0] * 23 + [1]), [2, 0, 1, 24, 0])
        self.assertEqual(corners(24, 65521, [-1] + [0] * 23 + [65521]), [2, 0, 0, 24, 1])


class Edges(unittest.TestCase):
    def test_n_1(self):
        for p, f, answer in [
            (2, [1, 1], [2, 0, 0, 1, 0]),
            (2, [12, -1], [2, 0, 2, 1, 0]),
            (3, [2, 81], [2, 0, 0, 1, 4]),
            (65521, [65521, 65521 ** 3], [2, 0, 1, 1, 3]),
        ]:
            self.assertEqual(corners(1, p, f), answer, (p, f))

    def test_n_24(self):
        heights = [abs(place - 12) * (abs(place - 12) + 1) // 2 % 63 for place in range(25)]
        heights[0] = heights[24] = 62
        f = [2 ** high for high in heights]
        self.assertEqual(corners(24, 2, f), told(corners_by_chords(24, 2, f)))
        f = [3 ** (abs(place - 12) * abs(place - 12) // 4) for place in range(25)]
        self.assertEqual(corners(24, 3, f), told(corners_by_chords(24, 3, f)))
        self.assertEqual(corners(24, 2, [1] * 25), [2, 0, 0, 24, 0])

    def test_every_place_a_corner(self):
        f = [2 ** (abs(place - 8) * (abs(place - 8) + 1) // 2) for place in range(17)]
        answer = corners(16, 2, f)
        self.assertEqual(answer[0], 17)
        self.assertEqual(answer[1::2], list(range(17)))

    def test_the_greatest_and_the_least_number(self):
        self.assertEqual(corners(1, 2, [LEAST, MOST]), [2, 0, 63, 1, 0])
        self.assertEqual(corners(1, 2, [MOST, LEAST]), [2, 0, 0, 1, 63])
        self.assertEqual(corners(2, 2, [LEAST, MOST, LEAST]), [3, 0, 63, 1, 0, 2, 63])
        self.assertEqual(corners(2, 2, [MOST, LEAST, MOST]), [2, 0, 0, 2, 0])
        self.assertEqual(corners(2, 7, [MOST, LEAST, MOST]), [3, 0, 2, 1, 0, 2, 2])
        self.assertEqual(corners(24, 2, [LEAST] * 25), [2, 0, 63, 24, 63])
        self.assertEqual(corners(24, 65521, [MOST] + [LEAST] * 24), [2, 0, 0, 24, 0])

    def test_the_greatest_prime(self):
        p = 65521
        self.assertEqual(corners(2, p, [p * p, p, 1]), [2, 0, 2, 2, 0])
        self.assertEqual(corners(2, p, [p * p * p, -p, 1]), [3, 0, 3, 1, 1, 2, 0])
        self.assertEqual(corners(2, p, [65520, 65522, 2]), [2, 0, 0, 2, 0])

    def test_other_primes_see_other_corners(self):
        f = [12, 6, 1, 18]
        self.assertEqual(corners(3, 2, f), [3, 0, 2, 2, 0, 3, 1])
        self.assertEqual(corners(3, 3, f), [3, 0, 1, 2, 0, 3, 2])
        self.assertEqual(corners(3, 5, f), [2, 0, 0, 3, 0])


class Refusals(unittest.TestCase):
    def test_n_out_of_its_range(self):
        for n in (0, -1, 25, 26, -24, 4294967, -2147483648, 2147483647):
            for p in (2, 3, 65521):
                self.assertEqual(corners(n, p, []), [-2], (n, p))

    def test_minus_2_comes_before_minus_3(self):
        for n in (0, -1, 25, -2147483648, 2147483647):
            for p in NO_PRIMES:
                self.assertEqual(corners(n, p, []), [-2], (n, p))

    def test_the_first_or_the_last_number_is_0(self):
        for n, f in [
            (1, [0, 1]), (1, [1, 0]), (1, [0, 0]), (2, [0, 1, 2]), (2, [2, 1, 0]), (3, [0, 4, 4, 0]),
            (24, [0] + [1] * 24), (24, [1] * 24 + [0]), (24, [0] * 25),
        ]:
            for p in (2, 5, 65521) + NO_PRIMES:
                self.assertEqual(corners(n, p, f), [-3], (n, p, f))

    def test_no_prime_below_65536(self):
        for p in NO_PRIMES:
            for n, f in [(1, [1, 1]), (2, [4, 2, 1]), (3, [LEAST, 0, 0, MOST]), (24, [1] * 25)]:
                self.assertEqual(corners(n, p, f), [-3], (n, p, f))


class EachCallByItself(unittest.TestCase):
    calls = [
        ((2, 2, [8, 2, 1]), [3, 0, 3, 1, 1, 2, 0]),
        ((0, 2, []), [-2]),
        ((2, 3, [8, 2, 1]), [2, 0, 0, 2, 0]),
        ((2, 2, [8, 2, 0]), [-3]),
        ((2, 4, [8, 2, 1]), [-3]),
        ((25, 4, []), [-2]),
        ((4, 2, [-4, 0, 2, 0, 1]), [2, 0, 2, 4, 0]),
    ]

    def test_f_stays_as_it_is(self):
        for (n, p, numbers), answer in self.calls:
            f = Unchanged(numbers)
            self.assertEqual(corners(n, p, f), answer)
            self.assertEqual(f, numbers)
            f = list(numbers)
            corners(n, p, f)
            self.assertEqual(f, numbers)

    def test_the_answer_is_one_list_of_whole_numbers(self):
        for given, expected in self.calls:
            answer = corners(*given)
            self.assertIs(type(answer), list)
            self.assertIsNot(answer, given[2])
            self.assertEqual([type(number) for number in answer], [int] * len(expected))
            if answer[0] > 0:
                self.assertEqual(len(answer), 1 + 2 * answer[0])

    def test_nothing_is_kept(self):
        for first, expected in self.calls:
            corners(*first)
            for given, answer in self.calls:
                self.assertEqual(corners(*given), answer, (first, given))
                self.assertEqual(height(2, 12), [2])
                self.assertEqual(corners(*given), answer, (first, given))

    def test_the_same_list_with_other_numbers(self):
        f = [8, 2, 1]
        self.assertEqual(corners(2, 2, f), [3, 0, 3, 1, 1, 2, 0])
        f[1] = 1
        self.assertEqual(corners(2, 2, f), [3, 0, 3, 1, 0, 2, 0])

    def test_an_answer_is_the_callers_own(self):
        for given, answer in self.calls:
            corners(*given).append(99)
            self.assertEqual(corners(*given), answer)

    def test_nothing_is_printed(self):
        printed = io.StringIO()
        with contextlib.redirect_stdout(printed), contextlib.redirect_stderr(printed):
            for given, answer in self.calls:
                corners(*given)
        self.assertEqual(printed.getvalue(), "")


if __name__ == "__main__":
    unittest.main()
