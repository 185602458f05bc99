"""The calls: each is by itself, and answers a list of whole numbers; a refusal is one number below 0, alone."""

from unparted.polygon import count_divisions, is_prime


def height(p, z):
    """Answer how often the prime p divides z; refused with -3 if p is no prime below 65536, with -5 if z is 0."""
    # -3 comes before -5, so p is looked at first.
    if not is_prime(p):
        return [-3]
    if z == 0:
        return [-5]
    return [count_divisions(p, z)]
