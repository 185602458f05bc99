"""The whole program: the six calls mixed, and what the document says of all of them together."""

import ast
import contextlib
import importlib
import inspect
import io
import itertools
import pathlib
import sys
import unittest

import unparted
from unparted import desk
from unparted.desk import corners, expo, height, laguerre, parts, pieces

LEAST = -9223372036854775808
MOST = 9223372036854775807

# Each call as its name, what is handed in, and what is answered.
CALLS = [
    ("height", (2, 12), [2]),
    ("height", (3, -MOST), [0]),
    ("height", (2, LEAST), [63]),
    ("height", (5, 0), [-5]),
    ("height", (4, 0), [-3]),
    ("height", (65537, 12), [-3]),
    ("corners", (2, 2, [4, 2, 1]), [2, 0, 2, 2, 0]),
    ("corners", (2, 2, [8, 2, 1]), [3, 0, 3, 1, 1, 2, 0]),
    ("corners", (4, 3, [8, 2, 0, 0, 1]), [2, 0, 0, 4, 0]),
    ("corners", (6, 2, [720, 720, 360, 120, 30, 6, 1]), [3, 0, 4, 4, 1, 6, 0]),
    ("corners", (24, 2, [LEAST] + [0] * 23 + [MOST]), [2, 0, 63, 24, 0]),
    ("corners", (0, 2, []), [-2]),
    ("corners", (2147483647, 4, []), [-2]),
    ("corners", (2, 2, [0, 2, 1]), [-3]),
    ("corners", (2, 9, [4, 2, 1]), [-3]),
    ("pieces", (2, 2, [4, 2, 1]), [2, 1, 1]),
    ("pieces", (3, 2, [2, 0, 0, 1]), [1, 3]),
    ("pieces", (6, 2, [720, 720, 360, 120, 30, 6, 1]), [2, 4, 2]),
    ("pieces", (24, 2, [LEAST] + [0] * 23 + [MOST]), [3, 8, 8, 8]),
    ("pieces", (25, 2, []), [-2]),
    ("pieces", (2, 2, [4, 2, 0]), [-3]),
    ("pieces", (1, 1, [1, 1]), [-3]),
    ("parts", (2, 2, [4, 2, 1]), [7]),
    ("parts", (3, 2, [2, 0, 0, 1]), [9]),
    ("parts", (6, 2, [720, 720, 360, 120, 30, 6, 1]), [85]),
    ("parts", (24, 2, [LEAST] + [0] * 23 + [MOST]), [16843009]),
    ("parts", (-2147483648, 2, []), [-2]),
    ("parts", (1, 2, [0, 0]), [-3]),
    ("parts", (2, 65536, [4, 2, 1]), [-3]),
    ("expo", (0,), [0, 1]),
    ("expo", (3,), [0, 6, 6, 3, 1]),
    ("expo", (6,), [0, 720, 720, 360, 120, 30, 6, 1]),
    ("expo", (21,), [-2]),
    ("expo", (-1,), [-2]),
    ("laguerre", (0,), [0, 1]),
    ("laguerre", (3,), [0, 6, -18, 9, -1]),
    ("laguerre", (6,), [0, 720, -4320, 5400, -2400, 450, -36, 1]),
    ("laguerre", (19,), [-2]),
    ("laguerre", (20,), [-2]),
    ("laguerre", (-2147483648,), [-2]),
]


class Unchanged(list):
    """A list that can't be changed, not for a while either."""

    def refuse(self, *given, **named):
        raise AssertionError("what is handed in was to be changed")

    append = extend = insert = pop = remove = clear = sort = reverse = refuse
    __setitem__ = __delitem__ = __iadd__ = __imul__ = refuse


def copied(given):
    """What is handed in, with lists of its own."""
    return tuple(list(value) if isinstance(value, list) else value for value in given)


def answer_alone(name, given):
    """What a call answers as the first one of a program that has just been loaded."""
    loaded = {module: sys.modules[module] for module in list(sys.modules) if module.split(".")[0] == "unparted"}
    for module in loaded:
        del sys.modules[module]
    try:
        return getattr(importlib.import_module("unparted.desk"), name)(*copied(given))
    finally:
        for module in [module for module in sys.modules if module.split(".")[0] == "unparted"]:
            del sys.modules[module]
        sys.modules.update(loaded)


def shuffled(many, seed):
    """The numbers below many in an order that the seed alone tells."""
    order = list(range(many))
    state = seed
    for at in range(many - 1, 0, -1):
        state = (state * 1103515245 + 12345) % 2147483648
        other = state // 64 % (at + 1)
        order[at], order[other] = order[other], order[at]
    return order


class CallsMixed(unittest.TestCase):
    def ask(self, at, told):
        name, given, answer = CALLS[at]
        handed = copied(given)
        self.assertEqual(getattr(desk, name)(*handed), answer, (name, given, told))
        self.assertEqual(handed, given, (name, told))

    def test_each_alone(self):
        for name, given, answer in CALLS:
            self.assertEqual(answer_alone(name, given), answer, (name, given))

    def test_forwards_and_backwards(self):
        for at in range(len(CALLS)):
            self.ask(at, "forwards")
        for at in reversed(range(len(CALLS))):
            self.ask(at, "backwards")

    def test_each_after_each_other(self):
        for before in range(len(CALLS)):
            for at in range(len(CALLS)):
                self.ask(before, at)
                self.ask(at, before)

    def test_orders_of_many_kinds(self):
        for seed in range(100):
            for at in shuffled(len(CALLS), seed):
                self.ask(at, seed)

    def test_answers_that_are_changed_by_their_owner(self):
        for seed in range(20):
            for at in shuffled(len(CALLS), seed):
                name, given, expected = CALLS[at]
                answer = getattr(desk, name)(*copied(given))
                self.assertEqual(answer, expected, (name, given))
                answer[0] = 99
                answer.append(-2)
                answer.reverse()

    def test_400_calls_in_one_go(self):
        asked = [CALLS[at % len(CALLS)] for at in range(0, 400 * 7, 7)]
        answers = [getattr(desk, name)(*copied(given)) for name, given, answer in asked]
        self.assertEqual(answers, [answer for name, given, answer in asked])

    def test_every_answer_is_a_list_of_whole_numbers(self):
        for name, given, expected in CALLS:
            answer = getattr(desk, name)(*copied(given))
            self.assertIs(type(answer), list, (name, given))
            self.assertEqual({type(number) for number in answer}, {int}, (name, given))

    def test_a_refusal_is_alone(self):
        for name, given, expected in CALLS:
            answer = getattr(desk, name)(*copied(given))
            if answer[0] < 0:
                self.assertEqual(len(answer), 1, (name, given))
                self.assertIn(answer[0], (-2, -3, -5), (name, given))


class WhatIsHandedIn(unittest.TestCase):
    polynomials = [
        (2, 2, [4, 2, 1]),
        (4, 3, [8, 2, 0, 0, 1]),
        (3, 2, [2, 0, 0, 0]),
        (2, 4, [4, 2, 1]),
        (25, 2, []),
        (24, 2, [LEAST] + [0] * 23 + [MOST]),
        (20, 5, expo(20)[1:]),
        (18, 3, laguerre(18)[1:]),
    ]

    def test_one_list_for_all_calls(self):
        for n, p, numbers in self.polynomials:
            f = list(numbers)
            alone = {call: call(n, p, list(numbers)) for call in (corners, pieces, parts)}
            for order in itertools.permutations((corners, pieces, parts)):
                for call in order:
                    self.assertEqual(call(n, p, f), alone[call], (call, n, p))
                    self.assertEqual(f, numbers, (call, n, p))
                    expo(n)
                    laguerre(n)
                    height(p, n)
                    self.assertEqual(f, numbers, (call, n, p))

    def test_not_for_a_while_either(self):
        for n, p, numbers in self.polynomials:
            f = Unchanged(numbers)
            for call in (corners, pieces, parts):
                self.assertEqual(call(n, p, f), call(n, p, list(numbers)), (call, n, p))
                self.assertEqual(f, numbers, (call, n, p))

    def test_an_answer_is_none_of_what_is_handed_in(self):
        for n, p, numbers in self.polynomials:
            f = list(numbers)
            for call in (corners, pieces, parts):
                self.assertIsNot(call(n, p, f), f, (call, n, p))


class CallsThatAgree(unittest.TestCase):
    def families(self):
        for n in range(1, 21):
            yield n, expo(n)[1:]
        for n in range(1, 19):
            yield n, laguerre(n)[1:]

    def test_a_corner_is_as_high_as_its_number(self):
        for n, f in self.families():
            for p in (2, 3, 5, 7, 11, 13, 17, 19, 65521):
                answer = corners(n, p, f)
                self.assertEqual(len(answer), 1 + 2 * answer[0], (n, p))
                self.assertEqual((answer[1], answer[-2]), (0, n), (n, p))
                for place, high in zip(answer[1::2], answer[2::2]):
                    self.assertEqual(height(p, f[place]), [high], (n, p, place))

    def test_the_pieces_fill_the_runs(self):
        for n, f in self.families():
            for p in (2, 3, 5, 7, 11, 13, 17, 19, 65521):
                answer = pieces(n, p, f)
                self.assertEqual(len(answer), 1 + answer[0], (n, p))
                ends = list(itertools.accumulate(answer[1:], initial=0))
                self.assertEqual(ends[-1], n, (n, p))
                for place in corners(n, p, f)[1::2]:
                    self.assertIn(place, ends, (n, p))

    def test_the_parts_are_what_pieces_are_together(self):
        for n, f in self.families():
            for p in (2, 3, 5, 7, 11, 13, 17, 19, 65521):
                reached = {0}
                for length in pieces(n, p, f)[1:]:
                    reached |= {degree + length for degree in reached}
                self.assertEqual(parts(n, p, f), [sum(2 ** degree for degree in reached)], (n, p))

    def test_no_degree_between_is_left_to_the_families(self):
        # After Schur, neither family can be parted: here the primes up to n suffice to tell it.
        for n, f in self.families():
            left = 2 ** (n + 1) - 1
            for p in (2, 3, 5, 7, 11, 13, 17, 19):
                if p <= n:
                    left &= parts(n, p, f)[0]
            self.assertEqual(left, 1 + 2 ** n, (n, f))


class TheInterface(unittest.TestCase):
    def test_the_names_of_what_is_handed_in(self):
        for call, names in [
            (height, ["p", "z"]), (corners, ["n", "p", "f"]), (pieces, ["n", "p", "f"]), (parts, ["n", "p", "f"]),
            (expo, ["n"]), (laguerre, ["n"]),
        ]:
            told = inspect.signature(call).parameters
            self.assertEqual(list(told), names, call)
            for name in names:
                self.assertIs(told[name].default, inspect.Parameter.empty, (call, name))

    def test_they_are_written_in_desk(self):
        for call in (height, corners, pieces, parts, expo, laguerre):
            self.assertEqual(call.__module__, "unparted.desk")

    def test_mod_and_sure_are_none_here(self):
        for name in ("mod", "sure"):
            self.assertFalse(hasattr(desk, name), name)

    def test_nothing_but_the_package_is_imported(self):
        files = sorted(pathlib.Path(unparted.__file__).parent.rglob("*.py"))
        self.assertIn("desk.py", [file.name for file in files])
        for file in files:
            for node in ast.walk(ast.parse(file.read_text(encoding="utf-8"))):
                self.assertNotIsInstance(node, ast.Import, file.name)
                if isinstance(node, ast.ImportFrom):
                    self.assertEqual((node.level, node.module.split(".")[0]), (0, "unparted"), file.name)

    def test_nothing_is_printed_and_nothing_is_read(self):
        class Unread(io.StringIO):
            def read(self, *given):
                raise AssertionError("something was to be read")

            readline = readlines = __next__ = read

        printed = io.StringIO()
        kept = sys.stdin
        sys.stdin = Unread()
        try:
            with contextlib.redirect_stdout(printed), contextlib.redirect_stderr(printed):
                for name, given, answer in CALLS:
                    answer_alone(name, given)
        finally:
            sys.stdin = kept
        self.assertEqual(printed.getvalue(), "")


if __name__ == "__main__":
    unittest.main()
