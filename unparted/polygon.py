"""Primes and heights: what the calls of desk.py are reckoned from."""


def is_prime(p):
    """Tell whether p is a prime below 65536."""
    if p < 2 or p > 65535:
        return False
    divisor = 2
    while divisor * divisor <= p:
        if p % divisor == 0:
            return False
        divisor += 1
    return True


def count_divisions(p, z):
    """Answer how often the prime p divides z, which isn't 0."""
    times = 0
    rest = z
    while rest % p == 0:
        rest = rest // p
        times += 1
    return times
