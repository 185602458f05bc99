"""Primes, heights, points, corners and pieces: what the calls of desk.py are reckoned from."""


def is_prime(p):
    """Tell whether p is a prime below 65536."""
    if p < 2 or p > 65535:
        return False
    divisor = 2
    while divisor * divisor <= p:
        if p % divisor == 0:
            return False
        divisor += 1
    return True


def count_divisions(p, z):
    """Answer how often the prime p divides z, which isn't 0."""
    times = 0
    rest = z
    while rest % p == 0:
        rest = rest // p
        times += 1
    return times


def find_points(p, f):
    """Answer the points over f's numbers that aren't 0, from the left, each as its place and its height."""
    points = []
    for place in range(len(f)):
        if f[place] != 0:
            points.append((place, count_divisions(p, f[place])))
    return points


def compare_rises(corner, point, other):
    """Answer below 0, 0 or above 0 as the way from corner to point is flatter than, as flat as, steeper than to other.

    Both stand to the right of the corner.
    """
    # Both runs are above 0: the quotients stand to each other as these products do, which stay whole.
    rise = (point[1] - corner[1]) * (other[0] - corner[0])
    other_rise = (other[1] - corner[1]) * (point[0] - corner[0])
    return rise - other_rise


def find_next_corner(points, at):
    """Answer which of the points is the next corner from the one at the index `at`, which isn't the last."""
    best = at + 1
    for k in range(at + 2, len(points)):
        # Of several that are equally flat the farthest counts, so a later one takes a tie.
        if compare_rises(points[at], points[k], points[best]) <= 0:
            best = k
    return best


def find_corners(points):
    """Answer those of the points that are corners, from the first to the last."""
    at = 0
    found = [points[at]]
    while at < len(points) - 1:
        at = find_next_corner(points, at)
        found.append(points[at])
    return found


def find_common_divisor(a, b):
    """Answer the greatest common divisor of a and b, which aren't below 0 and aren't both 0."""
    divisor = a
    rest = b
    while rest != 0:
        left = divisor % rest
        divisor = rest
        rest = left
    return divisor


def find_pieces(found):
    """Answer the lengths of the pieces between the corners found, from the first corner on."""
    lengths = []
    for k in range(1, len(found)):
        run = found[k][0] - found[k - 1][0]
        # A rise below 0 has the divisors of the same rise above 0; where it is 0, every divisor of the run is common.
        rise = abs(found[k][1] - found[k - 1][1])
        many = find_common_divisor(rise, run)
        for piece in range(many):
            lengths.append(run // many)
    return lengths


def mark_degrees(lengths):
    """Answer the number whose bit d is 1 if some of the lengths (none, or all, too) are d together."""
    # Without any length nothing but 0 is reached.
    marks = 1
    for length in lengths:
        # Whatever was reached without this length is reached with it too, as much farther as it is long.
        marks = marks | (marks << length)
    return marks
