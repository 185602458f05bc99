"""Promise 3, and the row "All:" as far as it speaks of pieces."""

import contextlib
import io
import itertools
import unittest
from fractions import Fraction

from unparted.desk import corners, height, pieces

LEAST = -9223372036854775808
MOST = 9223372036854775807
NO_PRIMES = (0, 1, 4, 9, 49, 65535, 65536, 65537, 4294967291, 4294967295)


class Unchanged(list):
    """A list that can't be changed, not for a while either."""

    def refuse(self, *given, **named):
        raise AssertionError("what is handed in was to be changed")

    append = extend = insert = pop = remove = clear = sort = reverse = refuse
    __setitem__ = __delitem__ = __iadd__ = __imul__ = refuse


def polynomial(p, heights):
    """The numbers that have the heights told by their places, and 0 everywhere else."""
    f = [0] * (max(heights) + 1)
    for place in heights:
        f[place] = p ** heights[place]
    return f


def times_divided(p, z):
    """How often p divides z, found from above: the greatest power of p that divides it."""
    return max(times for times in range(64) if z % p ** times == 0)


def corners_by_chords(n, p, f):
    """A point is a corner if it lies below every chord from a point on its left to one on its right."""
    points = [(place, times_divided(p, f[place])) for place in range(n + 1) if f[place] != 0]
    answer = []
    for at, (place, high) in enumerate(points):
        below = all(
            high < left[1] + Fraction(right[1] - left[1], right[0] - left[0]) * (place - left[0])
            for left in points[:at] for right in points[at + 1:]
        )
        if below:
            answer.append((place, high))
    return answer


def pieces_by_crossings(n, p, f):
    """A piece ends wherever the line from a corner to the next is whole over a whole place."""
    found = corners_by_chords(n, p, f)
    ends = [0]
    for left, right in zip(found, found[1:]):
        rise = Fraction(right[1] - left[1], right[0] - left[0])
        for place in range(left[0] + 1, right[0] + 1):
            if (left[1] + rise * (place - left[0])).denominator == 1:
                ends.append(place)
    lengths = [end - start for start, end in zip(ends, ends[1:])]
    return [len(lengths)] + lengths


class OrdinaryPolynomials(unittest.TestCase):
    def check(self, p, f, answer):
        self.assertEqual(pieces(len(f) - 1, p, f), answer, (p, f))

    def test_two_corners_without_a_common_divisor(self):
        self.check(2, [2, 0, 0, 1], [1, 3])
        self.check(3, [6, 9, 3, 1], [1, 3])
        self.check(2, [4, 0, 0, 1], [1, 3])
        self.check(2, [16, 8, 4, 1], [1, 3])
        self.check(5, [1, 5, 0, 25, 0, 25], [1, 5])
        self.check(2, [32, 0, 0, 0, 0, 0, 0, 1], [1, 7])
        self.check(7, [1, 0, 0, 0, 7 ** 9], [1, 4])

    def test_two_corners_with_a_common_divisor(self):
        self.check(2, [4, 0, 1], [2, 1, 1])
        self.check(2, [4, 0, 0, 0, 1], [2, 2, 2])
        self.check(2, [16, 0, 0, 0, 0, 0, 1], [2, 3, 3])
        self.check(3, polynomial(3, {0: 6, 9: 0}), [3, 3, 3, 3])
        self.check(3, polynomial(3, {0: 1, 10: 5}), [2, 5, 5])
        self.check(5, polynomial(5, {0: 20, 12: 2}), [6, 2, 2, 2, 2, 2, 2])
        self.check(2, polynomial(2, {0: 12, 6: 0}), [6, 1, 1, 1, 1, 1, 1])
        self.check(2, polynomial(2, {0: 0, 15: 10}), [5, 3, 3, 3, 3, 3])

    def test_several_corners(self):
        self.check(2, [8, 2, 1], [2, 1, 1])
        self.check(2, [8, 4, 1, 1, 2, 8], [4, 2, 1, 1, 1])
        self.check(2, [8, 2, 1, 1, 4, 8], [4, 1, 1, 1, 2])
        self.check(2, [120, 120, 60, 20, 5, 1], [2, 4, 1])
        self.check(2, [96, -40, 0, 14, 22, 9, 0, 60, 256], [7, 1, 1, 1, 2, 1, 1, 1])

    def test_the_order_is_that_of_the_corners(self):
        heights = {0: 7, 6: 3, 11: 2, 13: 2, 17: 3, 21: 5, 24: 8}
        self.check(2, polynomial(2, heights), [11, 3, 3, 5, 1, 1, 4, 2, 2, 1, 1, 1])
        self.check(2, polynomial(2, heights)[::-1], [11, 1, 1, 1, 2, 2, 4, 1, 1, 5, 3, 3])
        self.check(2, polynomial(2, {0: 1, 5: 0, 7: 1, 10: 3}), [3, 5, 2, 3])
        self.check(2, polynomial(2, {0: 3, 3: 1, 5: 0, 10: 1}), [3, 3, 2, 5])

    def test_numbers_below_0(self):
        self.check(2, [-4, 0, 0, 0, -1], [2, 2, 2])
        self.check(3, [-6, 9, -3, 1], [1, 3])
        self.check(5, [-1, -5, -125], [2, 1, 1])
        self.check(2, [6, -9, 18, -6, 1], [4, 1, 1, 1, 1])

    def test_the_farthest_of_equally_flat_places_counts(self):
        self.check(2, [8, 4, 2, 1], [3, 1, 1, 1])
        self.check(2, [4, 0, 2, 0, 1], [2, 2, 2])
        self.check(2, [16, 4, 1, 1, 1, 2, 4], [6, 1, 1, 1, 1, 1, 1])
        self.check(3, polynomial(3, {0: 0, 3: 2, 6: 4, 9: 6}), [3, 3, 3, 3])

    def test_a_steeper_place_between_changes_nothing(self):
        self.check(2, [4, 8, 2, 16, 1], [2, 2, 2])
        self.check(2, [2, 2, 2, 4, 1], [1, 4])

    def test_other_primes_see_other_pieces(self):
        f = [36, 0, 0, 0, 6, 0, 1]
        self.check(2, f, [2, 3, 3])
        f = [4, 0, 6, 0, 9]
        self.check(2, f, [2, 2, 2])
        self.check(3, f, [2, 2, 2])
        self.check(5, f, [4, 1, 1, 1, 1])


class Rises(unittest.TestCase):
    def test_rise_0_has_as_many_pieces_as_the_run_is_long(self):
        for run in range(1, 25):
            for p in (2, 3, 65521):
                for times in (0, 1, 3):
                    f = polynomial(p, {0: times, run: times})
                    self.assertEqual(pieces(run, p, f), [run] + [1] * run, (run, p, times))
        self.assertEqual(pieces(24, 2, [LEAST] * 25), [24] + [1] * 24)
        self.assertEqual(pieces(24, 2, [MOST] * 25), [24] + [1] * 24)
        self.assertEqual(pieces(5, 2, [2, 1, 0, 6, 1, 4]), [5, 1, 1, 1, 1, 1])

    def test_rise_0_between_others(self):
        self.assertEqual(pieces(9, 2, polynomial(2, {0: 1, 3: 0, 7: 0, 9: 1})), [6, 3, 1, 1, 1, 1, 2])

    def test_every_rise_along_every_run(self):
        for run in range(1, 25):
            for rise in range(1, 64):
                high = 2 ** rise if rise < 63 else LEAST
                many = sum(1 for place in range(1, run + 1) if rise * place % run == 0)
                answer = [many] + [run // many] * many
                low = [0] * (run - 1) + [1]
                self.assertEqual(pieces(run, 2, [high] + low), answer, (run, -rise))
                self.assertEqual(pieces(run, 2, (low[::-1] + [high])), answer, (run, rise))

    def test_a_rise_below_0_has_the_pieces_of_the_same_rise_above_0(self):
        for p, least, most, n in [(2, 1, 7, 9), (3, 0, 6, 8), (5, 2, 6, 24), (7, 0, 3, 12), (2, 13, 61, 18)]:
            below = polynomial(p, {0: most, n: least})
            above = polynomial(p, {0: least, n: most})
            self.assertEqual(pieces(n, p, below), pieces(n, p, above), (p, n))
            self.assertEqual(pieces(n, p, below), pieces_by_crossings(n, p, below), (p, n))


class AgainstCrossings(unittest.TestCase):
    def check(self, n, p, f):
        answer = pieces(n, p, f)
        self.assertEqual(answer, pieces_by_crossings(n, p, f), (p, f))
        self.assertEqual(answer[0], len(answer) - 1)
        self.assertEqual(sum(answer[1:]), n, (p, f))

    def test_short_ones(self):
        numbers = (0, 1, -2, 4, -8, 24)
        for n in range(1, 5):
            for f in itertools.product(numbers, repeat=n + 1):
                if f[0] != 0 and f[n] != 0:
                    self.check(n, 2, list(f))

    def test_long_ones(self):
        state = 1
        for n in range(1, 25):
            for p in (2, 3, 5, 257, 65521):
                f = []
                for place in range(n + 1):
                    state = (state * 1103515245 + 12345) % 2147483648
                    most = {2: 60, 3: 36, 5: 24, 257: 6, 65521: 2}[p]
                    times = state // 64 % (most + 1)
                    other = (state // 4096) % 5 - 2
                    f.append(p ** times * other)
                f[0] = f[0] or -p
                f[n] = f[n] or p
                self.check(n, p, f)

    def test_every_corner_ends_a_piece(self):
        for p, f in [
            (2, [96, -40, 0, 14, 22, 9, 0, 60, 256]),
            (2, polynomial(2, {0: 7, 6: 3, 11: 2, 13: 2, 17: 3, 21: 5, 24: 8})),
        ]:
            n = len(f) - 1
            ends = list(itertools.accumulate(pieces(n, p, f)[1:], initial=0))
            for place in corners(n, p, f)[1::2]:
                self.assertIn(place, ends)


class Edges(unittest.TestCase):
    def test_n_1(self):
        for p, f in [(2, [1, 1]), (2, [12, -1]), (3, [2, 81]), (2, [LEAST, MOST]), (2, [MOST, LEAST]),
                     (65521, [65521, 65521 ** 3]), (65521, [-65521 ** 3, 1]), (7, [MOST, LEAST])]:
            self.assertEqual(pieces(1, p, f), [1, 1], (p, f))

    def test_n_24(self):
        self.assertEqual(pieces(24, 2, [2] + [0] * 23 + [1]), [1, 24])
        self.assertEqual(pieces(24, 2, [1] + [0] * 23 + [32]), [1, 24])
        self.assertEqual(pieces(24, 2, [4] + [0] * 23 + [1]), [2, 12, 12])
        self.assertEqual(pieces(24, 2, [2 ** 62] + [0] * 23 + [1]), [2, 12, 12])
        self.assertEqual(pieces(24, 2, [2 ** 60] + [0] * 23 + [1]), [12] + [2] * 12)
        self.assertEqual(pieces(24, 2, [2 ** 48] + [0] * 23 + [1]), [24] + [1] * 24)
        self.assertEqual(pieces(24, 2, [2 ** place for place in range(25)]), [24] + [1] * 24)

    def test_the_greatest_and_the_least_number(self):
        self.assertEqual(pieces(24, 2, [LEAST] + [0] * 23 + [MOST]), [3, 8, 8, 8])
        self.assertEqual(pieces(24, 2, [MOST] + [0] * 23 + [LEAST]), [3, 8, 8, 8])
        self.assertEqual(pieces(24, 2, [LEAST] + [LEAST] * 23 + [MOST]), [3, 8, 8, 8])
        self.assertEqual(pieces(24, 65521, [MOST] + [LEAST] * 24), [24] + [1] * 24)
        self.assertEqual(pieces(21, 2, [LEAST] + [0] * 20 + [MOST]), [21] + [1] * 21)
        self.assertEqual(pieces(18, 2, [LEAST] + [0] * 17 + [MOST]), [9] + [2] * 9)
        self.assertEqual(pieces(23, 2, [LEAST] + [0] * 22 + [MOST]), [1, 23])
        self.assertEqual(pieces(4, 2, [LEAST, 0, MOST, 0, LEAST]), [2, 2, 2])
        self.assertEqual(pieces(3, 7, [MOST, 0, 0, LEAST]), [1, 3])
        self.assertEqual(pieces(4, 7, [MOST, 0, 0, 0, LEAST]), [2, 2, 2])
        self.assertEqual(pieces(4, 7, [LEAST, 0, 0, 0, MOST]), [2, 2, 2])

    def test_the_greatest_prime(self):
        p = 65521
        self.assertEqual(pieces(2, p, [p, p, 1]), [1, 2])
        self.assertEqual(pieces(3, p, [p * p * p, 0, 0, -1]), [3, 1, 1, 1])
        self.assertEqual(pieces(3, p, [p * p, 0, 0, -1]), [1, 3])
        self.assertEqual(pieces(6, p, [-1, 0, 0, 0, 0, 0, p * p * p]), [3, 2, 2, 2])
        self.assertEqual(pieces(2, p, [65520, 65522, 2]), [2, 1, 1])


class Refusals(unittest.TestCase):
    def test_n_out_of_its_range(self):
        for n in (0, -1, 25, 26, -24, 4294967, -2147483648, 2147483647):
            for p in (2, 3, 65521):
                self.assertEqual(pieces(n, p, []), [-2], (n, p))

    def test_minus_2_comes_before_minus_3(self):
        for n in (0, -1, 25, -2147483648, 2147483647):
            for p in NO_PRIMES:
                self.assertEqual(pieces(n, p, []), [-2], (n, p))

    def test_the_first_or_the_last_number_is_0(self):
        for n, f in [
            (1, [0, 1]), (1, [1, 0]), (1, [0, 0]), (2, [0, 1, 2]), (2, [2, 1, 0]), (3, [0, 4, 4, 0]),
            (24, [0] + [1] * 24), (24, [1] * 24 + [0]), (24, [0] * 25),
        ]:
            for p in (2, 5, 65521) + NO_PRIMES:
                self.assertEqual(pieces(n, p, f), [-3], (n, p, f))

    def test_no_prime_below_65536(self):
        for p in NO_PRIMES:
            for n, f in [(1, [1, 1]), (2, [4, 2, 1]), (3, [LEAST, 0, 0, MOST]), (24, [1] * 25)]:
                self.assertEqual(pieces(n, p, f), [-3], (n, p, f))


class EachCallByItself(unittest.TestCase):
    calls = [
        ((4, 2, [8, 2, 0, 0, 1]), [2, 1, 3]),
        ((0, 2, []), [-2]),
        ((4, 3, [8, 2, 0, 0, 1]), [4, 1, 1, 1, 1]),
        ((2, 2, [8, 2, 0]), [-3]),
        ((2, 4, [8, 2, 1]), [-3]),
        ((25, 4, []), [-2]),
        ((4, 2, [-4, 0, 2, 0, 1]), [2, 2, 2]),
    ]

    def test_f_stays_as_it_is(self):
        for (n, p, numbers), answer in self.calls:
            f = Unchanged(numbers)
            self.assertEqual(pieces(n, p, f), answer)
            self.assertEqual(f, numbers)
            f = list(numbers)
            pieces(n, p, f)
            self.assertEqual(f, numbers)

    def test_the_answer_is_one_list_of_whole_numbers(self):
        for given, expected in self.calls:
            answer = pieces(*given)
            self.assertIs(type(answer), list)
            self.assertIsNot(answer, given[2])
            self.assertEqual([type(number) for number in answer], [int] * len(expected))

    def test_nothing_is_kept(self):
        for first, expected in self.calls:
            pieces(*first)
            for given, answer in self.calls:
                self.assertEqual(pieces(*given), answer, (first, given))
                self.assertEqual(height(2, 12), [2])
                self.assertEqual(corners(2, 2, [8, 2, 1]), [3, 0, 3, 1, 1, 2, 0])
                self.assertEqual(pieces(*given), answer, (first, given))

    def test_the_same_list_with_other_numbers(self):
        f = [8, 0, 0, 1]
        self.assertEqual(pieces(3, 2, f), [3, 1, 1, 1])
        f[0] = 4
        self.assertEqual(pieces(3, 2, f), [1, 3])

    def test_an_answer_is_the_callers_own(self):
        for given, answer in self.calls:
            pieces(*given).append(99)
            self.assertEqual(pieces(*given), answer)

    def test_nothing_is_printed(self):
        printed = io.StringIO()
        with contextlib.redirect_stdout(printed), contextlib.redirect_stderr(printed):
            for given, answer in self.calls:
                pieces(*given)
        self.assertEqual(printed.getvalue(), "")


if __name__ == "__main__":
    unittest.main()
