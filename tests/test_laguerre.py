"""Promise 6, and the row "All:" as far as it speaks of laguerre."""

import contextlib
import io
import itertools
import unittest

from unparted.desk import corners, expo, height, laguerre, parts, pieces

OUT_OF_RANGE = (-1, -2, -18, -19, 19, 20, 21, 24, 40, 65536, -2147483648, 2147483647)
# Farther out a call would go on for hours if it did not refuse, so those are asked in one place alone.
JUST_OUT_OF_RANGE = (-1, -18, 19, 20)


def ways_counted(n):
    """In how many ways k of n can be chosen: the numbers below 2 ** n are counted by how many of their bits are 1."""
    ways = [0] * (n + 1)
    for choice in range(2 ** n):
        ways[bin(choice).count("1")] += 1
    return ways


def ways_by_rows(n):
    """In how many ways k of n can be chosen: the last of n is chosen, or it isn't."""
    row = [1]
    for length in range(n):
        row = [left + right for left, right in zip([0] + row, row + [0])]
    return row


def numbers_by_ways(n, ways):
    """Each number from the products 1 times 2 up to n, and up to k, written out as such."""
    numbers = []
    for k in range(n + 1):
        up_to_n = 1
        up_to_k = 1
        for factor in range(1, n + 1):
            up_to_n *= factor
            if factor <= k:
                up_to_k *= factor
        numbers.append((up_to_n // up_to_k) * ways[k] * (1, -1)[k % 2])
    return numbers


def numbers_by_steps(n):
    """The polynomial of m + 1 is 2m + 1 - x times that of m, less m times m times that of m - 1."""
    before = []
    numbers = [1]
    for m in range(n):
        following = [0] * (m + 2)
        for place, number in enumerate(numbers):
            following[place] += (2 * m + 1) * number
            following[place + 1] -= number
        for place, number in enumerate(before):
            following[place] -= m * m * number
        before = numbers
        numbers = following
    return numbers


def numbers_by_matchings(n):
    """n - k of n things are put upon n - k of n places, each way counted by itself."""
    numbers = []
    for k in range(n + 1):
        ways = 0
        for things in itertools.combinations(range(n), n - k):
            for places in itertools.permutations(range(n), n - k):
                ways += 1
        numbers.append(-ways if k % 2 == 1 else ways)
    return numbers


class OrdinaryNumbers(unittest.TestCase):
    def test_numbers_written_out(self):
        self.assertEqual(laguerre(2), [0, 2, -4, 1])
        self.assertEqual(laguerre(3), [0, 6, -18, 9, -1])
        self.assertEqual(laguerre(4), [0, 24, -96, 72, -16, 1])
        self.assertEqual(laguerre(5), [0, 120, -600, 600, -200, 25, -1])
        self.assertEqual(laguerre(6), [0, 720, -4320, 5400, -2400, 450, -36, 1])

    def test_a_longer_one_written_out(self):
        self.assertEqual(
            laguerre(10),
            [0, 3628800, -36288000, 81648000, -72576000, 31752000, -7620480, 1058400, -86400, 4050, -100, 1],
        )


class EveryN(unittest.TestCase):
    def test_0_and_then_n_and_1_numbers(self):
        for n in range(19):
            answer = laguerre(n)
            self.assertEqual(answer[0], 0, n)
            self.assertEqual(len(answer), n + 2, n)

    def test_below_0_where_k_is_odd(self):
        for n in range(19):
            for k, number in enumerate(laguerre(n)[1:]):
                if k % 2 == 1:
                    self.assertLess(number, 0, (n, k))
                else:
                    self.assertGreater(number, 0, (n, k))

    def test_number_0_is_1_times_2_up_to_n(self):
        product = 1
        for n in range(19):
            product *= max(n, 1)
            self.assertEqual(laguerre(n)[1], product, n)

    def test_number_n_is_1_or_minus_1(self):
        for n in range(19):
            self.assertEqual(laguerre(n)[-1], -1 if n % 2 == 1 else 1, n)

    def test_the_last_but_one(self):
        for n in range(1, 19):
            self.assertEqual(abs(laguerre(n)[-2]), n * n, n)

    def test_each_is_expos_times_the_ways(self):
        for n in range(19):
            others = expo(n)[1:]
            ways = ways_by_rows(n)
            for k, number in enumerate(laguerre(n)[1:]):
                self.assertEqual(abs(number), others[k] * ways[k], (n, k))


class AgainstOtherWays(unittest.TestCase):
    def test_choices_counted_one_by_one(self):
        for n in range(19):
            self.assertEqual(laguerre(n), [0] + numbers_by_ways(n, ways_counted(n)), n)

    def test_choices_row_by_row(self):
        for n in range(19):
            self.assertEqual(laguerre(n), [0] + numbers_by_ways(n, ways_by_rows(n)), n)

    def test_steps_from_n_to_n(self):
        for n in range(19):
            self.assertEqual(laguerre(n), [0] + numbers_by_steps(n), n)

    def test_matchings_counted_one_by_one(self):
        for n in range(6):
            self.assertEqual(laguerre(n), [0] + numbers_by_matchings(n), n)


class Edges(unittest.TestCase):
    def test_n_0(self):
        self.assertEqual(laguerre(0), [0, 1])

    def test_n_1(self):
        self.assertEqual(laguerre(1), [0, 1, -1])

    def test_n_17(self):
        answer = laguerre(17)
        self.assertEqual(answer[:3], [0, 355687428096000, -6046686277632000])
        self.assertEqual(answer[-4:], [2774400, -36992, 289, -1])

    def test_n_18(self):
        self.assertEqual(laguerre(18), [
            0,
            6402373705728000, -115242726703104000, 489781588488192000, -870722823979008000, 816302647480320000,
            -457129482588979200, 165074535379353600, -40426416827596800, 6948290392243200, -857813628672000,
            77203226580480, -5104345559040, 248127909120, -8809274880, 224726400, -3995136, 46818, -324, 1,
        ])


class Refusals(unittest.TestCase):
    def test_n_out_of_its_range(self):
        for n in OUT_OF_RANGE:
            self.assertEqual(laguerre(n), [-2], n)

    def test_expo_answers_19_and_20(self):
        for n in (19, 20):
            self.assertEqual(laguerre(n), [-2], n)
            self.assertEqual(len(expo(n)), n + 2, n)
            self.assertEqual(expo(n)[0], 0, n)


class EachCallByItself(unittest.TestCase):
    calls = [
        (3, [0, 6, -18, 9, -1]),
        (0, [0, 1]),
        (19, [-2]),
        (5, [0, 120, -600, 600, -200, 25, -1]),
        (-1, [-2]),
        (1, [0, 1, -1]),
    ]

    def test_the_answer_is_a_list_of_whole_numbers(self):
        for n in tuple(range(19)) + JUST_OUT_OF_RANGE:
            answer = laguerre(n)
            self.assertIs(type(answer), list, n)
            self.assertEqual({type(number) for number in answer}, {int}, n)

    def test_the_same_n_gives_equal_lists(self):
        for n in tuple(range(19)) + JUST_OUT_OF_RANGE:
            first = laguerre(n)
            second = laguerre(n)
            self.assertEqual(first, second, n)
            self.assertIsNot(first, second, n)

    def test_an_answer_is_the_callers_own(self):
        for n in tuple(range(19)) + JUST_OUT_OF_RANGE:
            first = laguerre(n)
            as_it_was = list(first)
            others = expo(n)
            first.append(99)
            first[0] = 7
            first.reverse()
            self.assertEqual(laguerre(n), as_it_was, n)
            first.clear()
            self.assertEqual(laguerre(n), as_it_was, n)
            self.assertEqual(expo(n), others, n)

    def test_nothing_is_kept(self):
        for before, first in self.calls:
            laguerre(before)
            for n, answer in self.calls:
                self.assertEqual(laguerre(n), answer, (before, n))
                self.assertEqual(expo(3), [0, 6, 6, 3, 1])
                self.assertEqual(laguerre(n), answer, (before, n))

    def test_its_numbers_can_be_handed_on(self):
        # The heights of 24, -96, 72, -16 and 1 under 2 are 3, 5, 3, 4 and 0.
        f = laguerre(4)[1:]
        self.assertEqual([height(2, number) for number in f], [[3], [5], [3], [4], [0]])
        self.assertEqual(corners(4, 2, f), [2, 0, 3, 4, 0])
        self.assertEqual(pieces(4, 2, f), [1, 4])
        self.assertEqual(parts(4, 2, f), [17])
        # 17 divides once what stands at 0, and neither of the last two.
        self.assertEqual(parts(18, 17, laguerre(18)[1:]), [1 + 2 + 131072 + 262144])

    def test_nothing_is_printed(self):
        printed = io.StringIO()
        with contextlib.redirect_stdout(printed), contextlib.redirect_stderr(printed):
            for n in tuple(range(19)) + JUST_OUT_OF_RANGE:
                laguerre(n)
        self.assertEqual(printed.getvalue(), "")


if __name__ == "__main__":
    unittest.main()
