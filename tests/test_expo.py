"""Promise 5, and the row "All:" as far as it speaks of expo."""

import contextlib
import io
import itertools
import unittest
from fractions import Fraction

from unparted.desk import corners, expo, height, parts, pieces

OUT_OF_RANGE = (-1, -2, -20, -21, 21, 22, 24, 40, 65536, -2147483648, 2147483647)
# Farther out a call would go on for hours if it did not refuse, so those are asked in one place alone.
JUST_OUT_OF_RANGE = (-1, -20, 21, 22)


def numbers_by_series(n):
    """1 times 2 up to n, times each number of the exponential series, as fractions."""
    series = [Fraction(1)]
    up_to_n = 1
    for k in range(1, n + 1):
        series.append(series[-1] / k)
        up_to_n *= k
    return [up_to_n * number for number in series]


def numbers_by_integrals(n):
    """The polynomial of n is 1 times 2 up to n, and n times that of n - 1, integrated from 0 on."""
    numbers = [Fraction(1)]
    for degree in range(1, n + 1):
        integral = [degree * number / (place + 1) for place, number in enumerate(numbers)]
        numbers = [degree * numbers[0]] + integral
    return numbers


def numbers_by_orders(n):
    """In how many orders n - k of n things can be laid in a row, each counted by itself."""
    return [sum(1 for row in itertools.permutations(range(n), n - k)) for k in range(n + 1)]


class OrdinaryNumbers(unittest.TestCase):
    def test_numbers_written_out(self):
        self.assertEqual(expo(2), [0, 2, 2, 1])
        self.assertEqual(expo(3), [0, 6, 6, 3, 1])
        self.assertEqual(expo(4), [0, 24, 24, 12, 4, 1])
        self.assertEqual(expo(5), [0, 120, 120, 60, 20, 5, 1])
        self.assertEqual(expo(6), [0, 720, 720, 360, 120, 30, 6, 1])
        self.assertEqual(expo(7), [0, 5040, 5040, 2520, 840, 210, 42, 7, 1])

    def test_a_longer_one_written_out(self):
        self.assertEqual(
            expo(12),
            [0, 479001600, 479001600, 239500800, 79833600, 19958400, 3991680, 665280, 95040, 11880, 1320, 132, 12, 1],
        )


class EveryN(unittest.TestCase):
    def test_0_and_then_n_and_1_numbers(self):
        for n in range(21):
            answer = expo(n)
            self.assertEqual(answer[0], 0, n)
            self.assertEqual(len(answer), n + 2, n)

    def test_number_0_is_1_times_2_up_to_n(self):
        product = 1
        for n in range(21):
            product *= max(n, 1)
            self.assertEqual(expo(n)[1], product, n)

    def test_number_n_is_1(self):
        for n in range(21):
            self.assertEqual(expo(n)[-1], 1, n)

    def test_each_is_a_multiple_of_the_next(self):
        for n in range(21):
            numbers = expo(n)[1:]
            for k in range(n):
                self.assertEqual(numbers[k], (k + 1) * numbers[k + 1], (n, k))

    def test_the_last_ones_but_one(self):
        for n in range(1, 21):
            self.assertEqual(expo(n)[-2], n, n)
        for n in range(2, 21):
            self.assertEqual(expo(n)[-3], n * (n - 1), n)


class AgainstOtherWays(unittest.TestCase):
    def test_the_series(self):
        for n in range(21):
            self.assertEqual(expo(n), [0] + numbers_by_series(n), n)

    def test_integrals(self):
        for n in range(21):
            self.assertEqual(expo(n), [0] + numbers_by_integrals(n), n)

    def test_orders_counted_one_by_one(self):
        for n in range(8):
            self.assertEqual(expo(n), [0] + numbers_by_orders(n), n)


class Edges(unittest.TestCase):
    def test_n_0(self):
        self.assertEqual(expo(0), [0, 1])

    def test_n_1(self):
        self.assertEqual(expo(1), [0, 1, 1])

    def test_n_20(self):
        self.assertEqual(expo(20), [
            0,
            2432902008176640000, 2432902008176640000, 1216451004088320000, 405483668029440000, 101370917007360000,
            20274183401472000, 3379030566912000, 482718652416000, 60339831552000, 6704425728000, 670442572800,
            60949324800, 5079110400, 390700800, 27907200, 1860480, 116280, 6840, 380, 20, 1,
        ])

    def test_n_19(self):
        answer = expo(19)
        self.assertEqual(answer[:3], [0, 121645100408832000, 121645100408832000])
        self.assertEqual(answer[-4:], [5814, 342, 19, 1])


class Refusals(unittest.TestCase):
    def test_n_out_of_its_range(self):
        for n in OUT_OF_RANGE:
            self.assertEqual(expo(n), [-2], n)


class EachCallByItself(unittest.TestCase):
    calls = [
        (3, [0, 6, 6, 3, 1]),
        (0, [0, 1]),
        (21, [-2]),
        (5, [0, 120, 120, 60, 20, 5, 1]),
        (-1, [-2]),
        (1, [0, 1, 1]),
    ]

    def test_the_answer_is_a_list_of_whole_numbers(self):
        for n in tuple(range(21)) + JUST_OUT_OF_RANGE:
            answer = expo(n)
            self.assertIs(type(answer), list, n)
            self.assertEqual({type(number) for number in answer}, {int}, n)

    def test_the_same_n_gives_equal_lists(self):
        for n in tuple(range(21)) + JUST_OUT_OF_RANGE:
            first = expo(n)
            second = expo(n)
            self.assertEqual(first, second, n)
            self.assertIsNot(first, second, n)

    def test_an_answer_is_the_callers_own(self):
        for n in tuple(range(21)) + JUST_OUT_OF_RANGE:
            first = expo(n)
            as_it_was = list(first)
            first.append(99)
            first[0] = 7
            first.reverse()
            self.assertEqual(expo(n), as_it_was, n)
            first.clear()
            self.assertEqual(expo(n), as_it_was, n)

    def test_nothing_is_kept(self):
        for before, first in self.calls:
            expo(before)
            for n, answer in self.calls:
                self.assertEqual(expo(n), answer, (before, n))
                self.assertEqual(height(2, 12), [2])
                self.assertEqual(corners(2, 2, [8, 2, 1]), [3, 0, 3, 1, 1, 2, 0])
                self.assertEqual(pieces(3, 2, [2, 0, 0, 1]), [1, 3])
                self.assertEqual(parts(2, 2, [4, 2, 1]), [7])
                self.assertEqual(expo(n), answer, (before, n))

    def test_its_numbers_can_be_handed_on(self):
        # Each digit of n, written in base p, is as many pieces as it tells, as long as the power of p at its place.
        self.assertEqual(corners(4, 2, expo(4)[1:]), [2, 0, 3, 4, 0])
        self.assertEqual(corners(6, 2, expo(6)[1:]), [3, 0, 4, 4, 1, 6, 0])
        self.assertEqual(pieces(6, 2, expo(6)[1:]), [2, 4, 2])
        self.assertEqual(pieces(20, 5, expo(20)[1:]), [4, 5, 5, 5, 5])
        self.assertEqual(parts(20, 5, expo(20)[1:]), [1082401])
        self.assertEqual(parts(20, 2, expo(20)[1:]), [1 + 16 + 65536 + 1048576])

    def test_nothing_is_printed(self):
        printed = io.StringIO()
        with contextlib.redirect_stdout(printed), contextlib.redirect_stderr(printed):
            for n in tuple(range(21)) + JUST_OUT_OF_RANGE:
                expo(n)
        self.assertEqual(printed.getvalue(), "")


if __name__ == "__main__":
    unittest.main()
