"""Promise 4, and the row "All:" as far as it speaks of parts."""

import contextlib
import io
import itertools
import unittest
from fractions import Fraction

from unparted.desk import corners, height, parts, pieces

LEAST = -9223372036854775808
MOST = 9223372036854775807
NO_PRIMES = (0, 1, 4, 9, 49, 65535, 65536, 65537, 4294967291, 4294967295)


class Unchanged(list):
    """A list that can't be changed, not for a while either."""

    def refuse(self, *given, **named):
        raise AssertionError("what is handed in was to be changed")

    append = extend = insert = pop = remove = clear = sort = reverse = refuse
    __setitem__ = __delitem__ = __iadd__ = __imul__ = refuse


def polynomial(p, heights):
    """The numbers that have the heights told by their places, and 0 everywhere else."""
    f = [0] * (max(heights) + 1)
    for place in heights:
        f[place] = p ** heights[place]
    return f


def bits(*degrees):
    """The number whose bits told are 1, and no other."""
    return sum(2 ** degree for degree in set(degrees))


def times_divided(p, z):
    """How often p divides z, found from above: the greatest power of p that divides it."""
    return max(times for times in range(64) if z % p ** times == 0)


def corners_by_chords(n, p, f):
    """A point is a corner if it lies below every chord from a point on its left to one on its right."""
    points = [(place, times_divided(p, f[place])) for place in range(n + 1) if f[place] != 0]
    answer = []
    for at, (place, high) in enumerate(points):
        below = all(
            high < left[1] + Fraction(right[1] - left[1], right[0] - left[0]) * (place - left[0])
            for left in points[:at] for right in points[at + 1:]
        )
        if below:
            answer.append((place, high))
    return answer


def lengths_by_crossings(n, p, f):
    """A piece ends wherever the line from a corner to the next is whole over a whole place."""
    found = corners_by_chords(n, p, f)
    ends = [0]
    for left, right in zip(found, found[1:]):
        rise = Fraction(right[1] - left[1], right[0] - left[0])
        for place in range(left[0] + 1, right[0] + 1):
            if (left[1] + rise * (place - left[0])).denominator == 1:
                ends.append(place)
    return [end - start for start, end in zip(ends, ends[1:])]


def parts_by_choices(n, p, f):
    """Of each length from none to all are taken, in every way; what they are together has its bit."""
    lengths = lengths_by_crossings(n, p, f)
    sorts = sorted(set(lengths))
    choices = itertools.product(*(range(lengths.count(length) + 1) for length in sorts))
    together = {sum(many * length for many, length in zip(choice, sorts)) for choice in choices}
    return [bits(*together)]


def parts_by_each_choice(lengths):
    """Every choice of the pieces one by one, for a list of few of them."""
    together = set()
    for many in range(len(lengths) + 1):
        for choice in itertools.combinations(lengths, many):
            together.add(sum(choice))
    return [bits(*together)]


class OrdinaryPolynomials(unittest.TestCase):
    def check(self, p, f, *degrees):
        self.assertEqual(parts(len(f) - 1, p, f), [bits(*degrees)], (p, f))

    def test_numbers_written_out(self):
        self.assertEqual(parts(3, 2, [2, 0, 0, 1]), [9])
        self.assertEqual(parts(2, 2, [4, 2, 1]), [7])
        self.assertEqual(parts(4, 2, [4, 0, 0, 0, 1]), [21])
        self.assertEqual(parts(5, 2, [120, 120, 60, 20, 5, 1]), [51])
        self.assertEqual(parts(1, 2, [1, 1]), [3])

    def test_one_piece_alone(self):
        self.check(2, [2, 2, 2, 1], 0, 3)
        self.check(3, [6, 9, 3, 1], 0, 3)
        self.check(5, [1, 5, 0, 25, 0, 25], 0, 5)
        self.check(2, [32, 0, 0, 0, 0, 0, 0, 1], 0, 7)
        self.check(7, [1, 0, 0, 0, 7 ** 9], 0, 4)
        self.check(2, [-2, 4, -6, 8, -1], 0, 4)

    def test_pieces_of_one_length(self):
        self.check(2, [4, 0, 1], 0, 1, 2)
        self.check(2, [16, 0, 0, 0, 0, 0, 1], 0, 3, 6)
        self.check(3, polynomial(3, {0: 6, 9: 0}), 0, 3, 6, 9)
        self.check(3, polynomial(3, {0: 1, 10: 5}), 0, 5, 10)
        self.check(5, polynomial(5, {0: 20, 12: 2}), 0, 2, 4, 6, 8, 10, 12)
        self.check(2, polynomial(2, {0: 4, 4: 1, 8: 0}), 0, 4, 8)

    def test_pieces_of_several_lengths(self):
        # 4 and 1.
        self.check(2, [120, 120, 60, 20, 5, 1], 0, 1, 4, 5)
        # 3 and 5, in the one order and in the other.
        self.check(2, polynomial(2, {0: 1, 3: 0, 8: 1}), 0, 3, 5, 8)
        self.check(2, polynomial(2, {0: 1, 5: 0, 8: 1}), 0, 3, 5, 8)
        # 5, 2 and 8.
        self.check(2, polynomial(2, {0: 1, 5: 0, 7: 1, 15: 6 + 8}), 0, 2, 5, 7, 8, 10, 13, 15)
        # 7, 7 and 3.
        self.check(3, polynomial(3, {0: 2, 14: 0, 17: 1}), 0, 3, 7, 10, 14, 17)
        # 6, 9 and 9.
        self.check(2, polynomial(2, {0: 1, 6: 0, 24: 4}), 0, 6, 9, 15, 18, 24)

    def test_sums_that_several_choices_reach(self):
        # 2, 3 and 5: 5 is reached in two ways.
        self.check(2, polynomial(2, {0: 2, 2: 1, 5: 0, 10: 1}), 0, 2, 3, 5, 7, 8, 10)
        # 4, 4, 2 and 2: 4, 6 and 8 are.
        self.check(2, polynomial(2, {0: 2, 8: 0, 12: 2}), 0, 2, 4, 6, 8, 10, 12)
        # 3, 3, 6 and 12.
        self.check(3, polynomial(3, {0: 4, 6: 2, 12: 1, 24: 0}), 0, 3, 6, 9, 12, 15, 18, 21, 24)
        # 1, 5 and 6: 6 is reached by the last, and by the others.
        self.check(2, polynomial(2, {0: 2, 1: 1, 6: 0, 12: 1}), 0, 1, 5, 6, 7, 11, 12)

    def test_a_piece_is_taken_only_once(self):
        # 2 and 5: neither 4 nor 6 is reached.
        self.check(2, polynomial(2, {0: 1, 2: 0, 7: 1}), 0, 2, 5, 7)
        # 1 and 23.
        self.check(2, polynomial(2, {0: 1, 1: 0, 24: 1}), 0, 1, 23, 24)

    def test_rise_0_between_others(self):
        # 7, 1, 1 and 9.
        self.check(2, polynomial(2, {0: 1, 7: 0, 9: 0, 18: 1}), 0, 1, 2, 7, 8, 9, 10, 11, 16, 17, 18)

    def test_numbers_below_0(self):
        self.check(2, [-4, 0, 0, 0, -1], 0, 2, 4)
        self.check(3, [-6, 9, -3, 1], 0, 3)
        self.check(2, [-120, 120, -60, 20, -5, 1], 0, 1, 4, 5)

    def test_other_primes_see_other_parts(self):
        f = [36, 0, 0, 0, 6, 0, 1]
        self.check(2, f, 0, 3, 6)
        self.check(5, f, 0, 1, 2, 3, 4, 5, 6)
        f = [720, 720, 360, 120, 30, 6, 1]
        self.check(2, f, 0, 2, 4, 6)
        self.check(3, f, 0, 3, 6)
        self.check(5, f, 0, 1, 5, 6)


class AllPieces1Long(unittest.TestCase):
    def test_every_bit_from_0_to_n(self):
        for n in range(1, 25):
            every = [bits(*range(n + 1))]
            self.assertEqual(parts(n, 2, [1] * (n + 1)), every, n)
            self.assertEqual(parts(n, 2, [2 ** place for place in range(n + 1)]), every, n)
            self.assertEqual(parts(n, 2, [2 ** (2 * (n - place)) for place in range(n + 1)]), every, n)
            self.assertEqual(parts(n, 65521, [LEAST] * n + [MOST]), every, n)
        f = polynomial(2, {0: 3, 1: 1, 2: 0, 20: 0, 21: 1, 22: 3, 23: 6, 24: 10})
        self.assertEqual(pieces(24, 2, f), [24] + [1] * 24)
        self.assertEqual(parts(24, 2, f), [33554431])


class AgainstAllSums(unittest.TestCase):
    def check(self, n, p, f):
        answer = parts(n, p, f)
        self.assertEqual(answer, parts_by_choices(n, p, f), (p, f))
        self.assertEqual(answer[0] % 2, 1, (p, f))
        # Bit n is 1, and none above it.
        self.assertEqual(answer[0].bit_length(), n + 1, (p, f))
        # What some of the pieces leave, the others make up.
        written = bin(answer[0])[2:]
        self.assertEqual(written, written[::-1], (p, f))

    def test_short_ones(self):
        numbers = (0, 1, -2, 4, -8, 24)
        for n in range(1, 5):
            for f in itertools.product(numbers, repeat=n + 1):
                if f[0] != 0 and f[n] != 0:
                    self.check(n, 2, list(f))

    def test_long_ones(self):
        state = 1
        for n in range(1, 25):
            for p in (2, 3, 5, 257, 65521):
                f = []
                for place in range(n + 1):
                    state = (state * 1103515245 + 12345) % 2147483648
                    most = {2: 60, 3: 36, 5: 24, 257: 6, 65521: 2}[p]
                    times = state // 64 % (most + 1)
                    other = (state // 4096) % 5 - 2
                    f.append(p ** times * other)
                f[0] = f[0] or -p
                f[n] = f[n] or p
                self.check(n, p, f)

    def test_three_runs_of_every_length(self):
        for first in range(1, 23):
            for second in range(1, 24 - first):
                for last in range(1, 25 - first - second):
                    f = polynomial(2, {0: 7, first: 5, first + second: 5 if second < 9 else 6,
                                       first + second + last: 24})
                    self.check(first + second + last, 2, f)

    def test_each_choice_of_the_pieces_told(self):
        for p, heights in [
            (2, {0: 7, 6: 3, 11: 2, 13: 2, 17: 3, 21: 5, 24: 8}),
            (2, {0: 1, 5: 0, 7: 1, 10: 3}),
            (3, {0: 9, 4: 7, 9: 5, 15: 3, 22: 1, 24: 1}),
            (5, {0: 3, 8: 1, 20: 0, 24: 2}),
        ]:
            f = polynomial(p, heights)
            n = len(f) - 1
            self.assertEqual(parts(n, p, f), parts_by_each_choice(pieces(n, p, f)[1:]), (p, heights))


class Edges(unittest.TestCase):
    def test_n_1(self):
        for p, f in [(2, [1, 1]), (2, [12, -1]), (3, [2, 81]), (2, [LEAST, MOST]), (2, [MOST, LEAST]),
                     (65521, [65521, 65521 ** 3]), (65521, [-65521 ** 3, 1]), (7, [MOST, LEAST])]:
            self.assertEqual(parts(1, p, f), [3], (p, f))

    def test_n_24(self):
        self.assertEqual(parts(24, 2, [2] + [0] * 23 + [1]), [16777217])
        self.assertEqual(parts(24, 2, [1] + [2] * 23 + [2]), [16777217])
        self.assertEqual(parts(24, 2, [4] + [0] * 23 + [1]), [bits(0, 12, 24)])
        self.assertEqual(parts(24, 2, [2 ** 60] + [0] * 23 + [1]), [bits(*range(0, 25, 2))])
        self.assertEqual(parts(24, 2, [1] * 25), [33554431])

    def test_the_greatest_and_the_least_number(self):
        self.assertEqual(parts(24, 2, [LEAST] + [0] * 23 + [MOST]), [bits(0, 8, 16, 24)])
        self.assertEqual(parts(24, 2, [MOST] + [LEAST] * 24), [bits(0, 8, 16, 24)])
        self.assertEqual(parts(23, 2, [LEAST] + [0] * 22 + [MOST]), [bits(0, 23)])
        self.assertEqual(parts(4, 2, [LEAST, 0, MOST, 0, LEAST]), [bits(0, 2, 4)])
        self.assertEqual(parts(3, 7, [MOST, 0, 0, LEAST]), [bits(0, 3)])
        self.assertEqual(parts(4, 7, [LEAST, 0, 0, 0, MOST]), [bits(0, 2, 4)])
        self.assertEqual(parts(24, 65521, [MOST] + [LEAST] * 24), [33554431])
        self.assertEqual(parts(24, 2, [LEAST] * 25), [33554431])

    def test_the_greatest_prime(self):
        p = 65521
        self.assertEqual(parts(2, p, [p, p, 1]), [5])
        self.assertEqual(parts(3, p, [p * p, 0, 0, -1]), [9])
        self.assertEqual(parts(3, p, [p * p * p, 0, 0, -1]), [15])
        self.assertEqual(parts(6, p, [-1, 0, 0, 0, 0, 0, p * p * p]), [bits(0, 2, 4, 6)])
        self.assertEqual(parts(2, p, [65520, 65522, 2]), [7])


class Refusals(unittest.TestCase):
    def test_n_out_of_its_range(self):
        for n in (0, -1, 25, 26, -24, 4294967, -2147483648, 2147483647):
            for p in (2, 3, 65521):
                self.assertEqual(parts(n, p, []), [-2], (n, p))

    def test_minus_2_comes_before_minus_3(self):
        for n in (0, -1, 25, -2147483648, 2147483647):
            for p in NO_PRIMES:
                self.assertEqual(parts(n, p, []), [-2], (n, p))

    def test_the_first_or_the_last_number_is_0(self):
        for n, f in [
            (1, [0, 1]), (1, [1, 0]), (1, [0, 0]), (2, [0, 1, 2]), (2, [2, 1, 0]), (3, [0, 4, 4, 0]),
            (24, [0] + [1] * 24), (24, [1] * 24 + [0]), (24, [0] * 25),
        ]:
            for p in (2, 5, 65521) + NO_PRIMES:
                self.assertEqual(parts(n, p, f), [-3], (n, p, f))

    def test_no_prime_below_65536(self):
        for p in NO_PRIMES:
            for n, f in [(1, [1, 1]), (2, [4, 2, 1]), (3, [LEAST, 0, 0, MOST]), (24, [1] * 25)]:
                self.assertEqual(parts(n, p, f), [-3], (n, p, f))


class EachCallByItself(unittest.TestCase):
    calls = [
        ((4, 2, [8, 2, 0, 0, 1]), [27]),
        ((0, 2, []), [-2]),
        ((4, 3, [8, 2, 0, 0, 1]), [31]),
        ((2, 2, [8, 2, 0]), [-3]),
        ((2, 4, [8, 2, 1]), [-3]),
        ((25, 4, []), [-2]),
        ((4, 2, [-4, 0, 2, 0, 1]), [21]),
    ]

    def test_f_stays_as_it_is(self):
        for (n, p, numbers), answer in self.calls:
            f = Unchanged(numbers)
            self.assertEqual(parts(n, p, f), answer)
            self.assertEqual(f, numbers)
            f = list(numbers)
            parts(n, p, f)
            self.assertEqual(f, numbers)

    def test_the_answer_is_a_list_with_one_whole_number(self):
        for given, expected in self.calls:
            answer = parts(*given)
            self.assertIs(type(answer), list)
            self.assertIsNot(answer, given[2])
            self.assertEqual([type(number) for number in answer], [int])

    def test_nothing_is_kept(self):
        for first, expected in self.calls:
            parts(*first)
            for given, answer in self.calls:
                self.assertEqual(parts(*given), answer, (first, given))
                self.assertEqual(height(2, 12), [2])
                self.assertEqual(corners(2, 2, [8, 2, 1]), [3, 0, 3, 1, 1, 2, 0])
                self.assertEqual(pieces(3, 2, [2, 0, 0, 1]), [1, 3])
                self.assertEqual(parts(*given), answer, (first, given))

    def test_the_same_list_with_other_numbers(self):
        f = [8, 0, 0, 1]
        self.assertEqual(parts(3, 2, f), [15])
        f[0] = 4
        self.assertEqual(parts(3, 2, f), [9])

    def test_an_answer_is_the_callers_own(self):
        for given, answer in self.calls:
            parts(*given).append(99)
            self.assertEqual(parts(*given), answer)

    def test_nothing_is_printed(self):
        printed = io.StringIO()
        with contextlib.redirect_stdout(printed), contextlib.redirect_stderr(printed):
            for given, answer in self.calls:
                parts(*given)
        self.assertEqual(printed.getvalue(), "")


if __name__ == "__main__":
    unittest.main()
