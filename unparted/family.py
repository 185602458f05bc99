"""The numbers that a degree alone tells: what expo and laguerre of desk.py are reckoned from."""


def list_quotients(n):
    """Answer n + 1 numbers: number k, from 0 to n, is 1 times 2 up to n, by 1 times 2 up to k."""
    # What is left of the quotient k is k + 1 up to n, together: reckoned from the last on, nothing is to be divided.
    quotient = 1
    quotients = [quotient]
    for factor in range(n, 0, -1):
        quotient = quotient * factor
        quotients.append(quotient)
    quotients.reverse()
    return quotients


def list_choices(n):
    """Answer n + 1 numbers: number k, from 0 to n, is in how many ways k of n can be chosen."""
    ways = 1
    choices = [ways]
    for k in range(n):
        # A choice of k + 1 arises in k + 1 ways, from k and one of the n - k others: the division leaves nothing.
        ways = ways * (n - k) // (k + 1)
        choices.append(ways)
    return choices


def list_alternating(n):
    """Answer n + 1 numbers: number k, from 0 to n, is the quotient k times the choices of k, below 0 where k is odd."""
    quotients = list_quotients(n)
    choices = list_choices(n)
    numbers = []
    for k in range(n + 1):
        number = quotients[k] * choices[k]
        if k % 2 == 1:
            number = -number
        numbers.append(number)
    return numbers
