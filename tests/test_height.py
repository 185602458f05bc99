"""Promise 1, and the row "All:" as far as it speaks of height."""

import contextlib
import io
import unittest

from unparted.desk import height

LEAST = -9223372036854775808
MOST = 9223372036854775807


def primes_below_65536():
    """Sieve, so that the program's own way of telling primes isn't asked about itself."""
    sieve = [False, False] + [True] * 65534
    for p in range(2, 256):
        if sieve[p]:
            for multiple in range(p * p, 65536, p):
                sieve[multiple] = False
    return sieve


class OrdinaryHeights(unittest.TestCase):
    def test_small_primes(self):
        for p, z, answer in [
            (2, 12, 2), (2, 96, 5), (3, 12, 1), (3, 162, 4), (5, 1000, 3), (7, 343, 3),
            (11, 242, 2), (13, 26, 1), (10007, 10007 * 10007 * 6, 2),
        ]:
            self.assertEqual(height(p, z), [answer], (p, z))

    def test_numbers_below_0(self):
        for p, z, answer in [
            (2, -12, 2), (2, -8, 3), (3, -12, 1), (3, -27, 3), (5, -1000, 3), (7, -2, 0), (2, -7, 0), (3, -2, 0),
        ]:
            self.assertEqual(height(p, z), [answer], (p, z))

    def test_height_0(self):
        for p, z in [(2, 7), (3, 8), (5, 12), (7, 48), (65521, 65520), (65521, 65522), (65521, 2), (5, 3)]:
            self.assertEqual(height(p, z), [0], (p, z))

    def test_primes_near_65536(self):
        for p in (65479, 65497, 65519, 65521):
            for times in range(4):
                for other in (1, -1, 2, -30, 32749):
                    self.assertEqual(height(p, p ** times * other), [times], (p, times, other))

    def test_every_power_within_the_range(self):
        for p in (2, 3, 5, 7, 11, 13, 251, 257, 65521):
            times = 0
            while p ** times <= MOST:
                self.assertEqual(height(p, p ** times), [times], (p, times))
                self.assertEqual(height(p, -(p ** times)), [times], (p, times))
                times += 1


class Edges(unittest.TestCase):
    def test_1_and_minus_1(self):
        for p in (2, 3, 5, 65521):
            self.assertEqual(height(p, 1), [0])
            self.assertEqual(height(p, -1), [0])

    def test_the_greatest_number(self):
        # It is 7 * 7 * 73 * 127 * 337 * 92737 * 649657.
        for p, answer in [(2, 0), (3, 0), (5, 0), (7, 2), (73, 1), (127, 1), (337, 1), (65521, 0)]:
            self.assertEqual(height(p, MOST), [answer], p)

    def test_the_least_number(self):
        for p, answer in [(2, 63), (3, 0), (5, 0), (7, 0), (65521, 0)]:
            self.assertEqual(height(p, LEAST), [answer], p)

    def test_2(self):
        for z, answer in [(2, 1), (-2, 1), (3, 0), (4, 2), (4611686018427387904, 62), (LEAST + 2, 1)]:
            self.assertEqual(height(2, z), [answer], z)


class Refusals(unittest.TestCase):
    def test_0_has_no_height(self):
        for p in (2, 3, 5, 251, 65519, 65521):
            self.assertEqual(height(p, 0), [-5], p)

    def test_no_prime_below_65536(self):
        for p in (0, 1, 4, 9, 49, 65535, 65536, 65537, 4294967291, 4294967295):
            for z in (1, -1, 4, 12, 4294967295, MOST, LEAST):
                self.assertEqual(height(p, z), [-3], (p, z))

    def test_minus_3_comes_before_minus_5(self):
        for p in (0, 1, 4, 9, 49, 65535, 65536, 65537, 4294967291, 4294967295):
            self.assertEqual(height(p, 0), [-3], p)

    def test_every_p_below_65536(self):
        sieve = primes_below_65536()
        for p in range(65536):
            self.assertEqual(height(p, 1), [0] if sieve[p] else [-3], p)


class EachCallByItself(unittest.TestCase):
    def test_the_answer_is_a_list_with_one_whole_number(self):
        for p, z in [(2, 12), (65521, -1), (2, 0), (4, 12), (0, 0)]:
            answer = height(p, z)
            self.assertIs(type(answer), list)
            self.assertEqual(len(answer), 1)
            self.assertIs(type(answer[0]), int)

    def test_nothing_is_kept(self):
        calls = [(2, 12), (4, 12), (3, 12), (2, 0), (4, 0), (2, LEAST), (65521, MOST), (65537, 1)]
        answers = [[2], [-3], [1], [-5], [-3], [63], [0], [-3]]
        for first in range(len(calls)):
            height(*calls[first])
            for call, answer in zip(calls, answers):
                self.assertEqual(height(*call), answer, (calls[first], call))
                self.assertEqual(height(*call), answer, (calls[first], call))

    def test_an_answer_is_the_callers_own(self):
        for p, z, answer in [(2, 12, 2), (2, 0, -5), (4, 12, -3)]:
            taken = height(p, z)
            taken.append(99)
            self.assertEqual(height(p, z), [answer])

    def test_nothing_is_printed(self):
        printed = io.StringIO()
        with contextlib.redirect_stdout(printed), contextlib.redirect_stderr(printed):
            height(2, 12)
            height(2, 0)
            height(4, 12)
        self.assertEqual(printed.getvalue(), "")


if __name__ == "__main__":
    unittest.main()
