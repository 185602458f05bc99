"""The calls: each is by itself, and answers a list of whole numbers; a refusal is one number below 0, alone."""

from unparted.family import list_alternating, list_quotients
from unparted.polygon import count_divisions, find_corners, find_pieces, find_points, is_prime, mark_degrees


def height(p, z):
    """Answer how often the prime p divides z; refused with -3 if p is no prime below 65536, with -5 if z is 0."""
    # -3 comes before -5, so p is looked at first.
    if not is_prime(p):
        return [-3]
    if z == 0:
        return [-5]
    return [count_divisions(p, z)]


def refuse_polynomial(n, p, f):
    """Answer what a call with a polynomial f of degree n and a prime p is refused with, or 0 if it isn't."""
    # f is empty where n is out of its range, so n is looked at before f.
    if n < 1 or n > 24:
        return -2
    if f[0] == 0 or f[n] == 0 or not is_prime(p):
        return -3
    return 0


def corners(n, p, f):
    """Answer how many corners there are, then of each, from the first on, its place and its height.

    Refused with -2 if n isn't from 1 to 24, with -3 if f's first number or its last is 0 or p is no prime below 65536.
    """
    refusal = refuse_polynomial(n, p, f)
    if refusal < 0:
        return [refusal]
    found = find_corners(find_points(p, f))
    answer = [len(found)]
    for corner in found:
        answer.append(corner[0])
        answer.append(corner[1])
    return answer


def pieces(n, p, f):
    """Answer how many pieces there are, then their lengths, from the first corner on.

    Refused with -2 if n isn't from 1 to 24, with -3 if f's first number or its last is 0 or p is no prime below 65536.
    """
    refusal = refuse_polynomial(n, p, f)
    if refusal < 0:
        return [refusal]
    lengths = find_pieces(find_corners(find_points(p, f)))
    return [len(lengths)] + lengths


def parts(n, p, f):
    """Answer the number whose bit d, d from 0 to n, is 1 if some of the pieces (none, or all, too) are d long together.

    Refused with -2 if n isn't from 1 to 24, with -3 if f's first number or its last is 0 or p is no prime below 65536.
    """
    refusal = refuse_polynomial(n, p, f)
    if refusal < 0:
        return [refusal]
    return [mark_degrees(find_pieces(find_corners(find_points(p, f))))]


def expo(n):
    """Answer 0, then n + 1 numbers: number k, from 0 to n, is 1 times 2 up to n, by 1 times 2 up to k.

    Refused with -2 if n isn't from 0 to 20.
    """
    if n < 0 or n > 20:
        return [-2]
    return [0] + list_quotients(n)


def laguerre(n):
    """Answer 0, then n + 1 numbers: number k, from 0 to n, is expo's times n over k, below 0 where k is odd.

    Refused with -2 if n isn't from 0 to 18.
    """
    if n < 0 or n > 18:
        return [-2]
    return [0] + list_alternating(n)
