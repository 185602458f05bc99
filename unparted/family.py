"""The numbers of polynomials that are told by their degree alone: what expo of desk.py is reckoned from."""


def list_quotients(n):
    """Answer n + 1 numbers: number k, from 0 to n, is 1 times 2 up to n, by 1 times 2 up to k."""
    # What is left of the quotient k is k + 1 up to n, together: reckoned from the last on, nothing is to be divided.
    quotient = 1
    quotients = [quotient]
    for factor in range(n, 0, -1):
        quotient = quotient * factor
        quotients.append(quotient)
    quotients.reverse()
    return quotients
