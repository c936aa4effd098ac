"""Promise 5 (count), and what the row on -2 says of n, what and most."""

import inspect
import itertools
import time
import unittest
from math import gcd, lcm

from planerepeats.patterns import alike, cell, count, kind, least
from tests.squares import every_square, moved

LEAST = -2147483648
GREATEST = 2147483647

# How many of the document's eight A each what means: the first ones.
HOW_MANY_WAYS = (1, 4, 8)


def answer_of(number):
    """The answer of count for this number, if most is enough."""
    decimal = str(number).encode("ascii")
    return [len(decimal)] + list(decimal)


def count_by_search(n, colours, what):
    """How many unlike squares there are: all are made, and what movements make of one is not counted again."""
    sources = []
    for way in range(HOW_MANY_WAYS[what]):
        for a in range(n):
            for b in range(n):
                source = [None] * (n * n)
                for place in range(n * n):
                    x, y = moved((way, a, b), place % n, place // n)
                    source[y % n * n + x % n] = place
                sources.append(source)
    counted = set()
    unlike = 0
    for p in every_square(n, colours):
        if tuple(p) not in counted:
            unlike += 1
            counted.update(tuple(p[place] for place in source) for source in sources)
    return unlike


def order(n, shift):
    """How many times this shift is done until it's 0 modulo n."""
    return n // gcd(n, shift)


def cycles_by_formula(n, way, a, b):
    """How many cycles of places a movement has, told by its A and shift alone."""
    nn = n * n
    if way == 0:
        return nn // lcm(order(n, a), order(n, b))
    if way == 2:
        # x = a / 2, y = b / 2 are left, all others in twos.
        if n % 2 == 1:
            return (nn + 1) // 2
        return (nn + 4) // 2 if a % 2 == b % 2 == 0 else nn // 2
    if way in (1, 3):
        # With n odd one place is left; else two, beside which two are taken to each other; or none.
        if n % 2 == 1:
            return 1 + (nn - 1) // 4
        return 3 + (nn - 4) // 4 if (a + b) % 2 == 0 else nn // 4
    if way in (4, 5):
        across, along = (a, b) if way == 4 else (b, a)
        left = 1 if n % 2 == 1 else 2 * (across % 2 == 0)
        times = order(n, along)
        return nn // times if times % 2 == 0 else (nn + left * n) // (2 * times)
    # Done twice it's this shift, in both parts; an odd one leaves n places, where it's a mirror.
    times = order(n, a + b if way == 6 else a - b)
    return nn // (2 * times) if times % 2 == 0 else (nn + n) // (2 * times)


def count_by_formula(n, colours, what):
    """How many unlike squares there are: the mean of how many squares a movement leaves."""
    left = 0
    for way in range(HOW_MANY_WAYS[what]):
        for a in range(n):
            for b in range(n):
                left += colours ** cycles_by_formula(n, way, a, b)
    number, rest = divmod(left, HOW_MANY_WAYS[what] * n * n)
    if rest != 0:
        raise AssertionError("the mean is not whole")
    return number


# Each call that isn't refused, but for most.
CALLS = list(itertools.product(range(1, 9), range(1, 11), range(3)))


class Checks(unittest.TestCase):
    def check(self, n, colours, what, most, wanted):
        with self.subTest(n=n, colours=colours, what=what, most=most):
            self.assertEqual(count(n, colours, what, most), wanted)

    def check_number(self, n, colours, what, number):
        self.check(n, colours, what, 64, answer_of(number))


class OrdinaryCalls(Checks):
    def test_by_hand(self):
        # All of one colour, two; one of the other, two; two beside, above and aslant.
        self.check(2, 2, 0, 9, [1, 55])
        # Turned, two beside are two above.
        self.check(2, 2, 1, 9, [1, 54])
        self.check(2, 2, 2, 9, [1, 54])
        # (512 + 8 * 8) / 9
        self.check(3, 2, 0, 9, [2, 54, 52])

    def test_two_colours(self):
        known = (
            (2, 7, 64, 4156, 1342208, 1908897152, 11488774559744, 288230376353050816),
            (2, 6, 28, 1171, 337664, 477339616, 2872202032640, 72057595967392816),
            (2, 6, 26, 805, 172112, 239123150, 1436120190288, 36028817512382026),
        )
        for what, numbers in enumerate(known):
            for n, number in enumerate(numbers, 1):
                self.check_number(n, 2, what, number)

    def test_small_squares_against_a_plain_search(self):
        for n, most_colours in ((1, 10), (2, 5), (3, 3), (4, 2)):
            for colours in range(1, most_colours + 1):
                for what in range(3):
                    self.check_number(n, colours, what, count_by_search(n, colours, what))

    def test_all_against_a_second_reckoning(self):
        for n, colours, what in CALLS:
            self.check_number(n, colours, what, count_by_formula(n, colours, what))

    def test_as_many_as_there_are_first_squares(self):
        for n, colours in ((1, 4), (2, 3), (3, 2)):
            for what in range(3):
                firsts = [p for p in every_square(n, colours) if least(n, what, p)[1:] == p]
                self.check_number(n, colours, what, len(firsts))


class Edges(Checks):
    def test_n_1(self):
        for what in range(3):
            for colours in range(1, 10):
                self.check(1, colours, what, 1, [1, 48 + colours])
            self.check(1, 10, what, 2, [2, 49, 48])

    def test_one_colour(self):
        for n in range(1, 9):
            for what in range(3):
                self.check(n, 1, what, 1, [1, 49])

    def test_n_8_with_10_colours(self):
        for what in range(3):
            number = count_by_formula(8, 10, what)
            self.assertGreater(len(str(number)), 60)
            self.assertGreater(number, 10 ** 64 // (64 * HOW_MANY_WAYS[what]))
            self.check(8, 10, what, len(str(number)), answer_of(number))

    def test_one_byte_and_two_bytes(self):
        numbers = {count_by_formula(*call) for call in CALLS}
        self.assertEqual(max(number for number in numbers if number < 10), 9)
        self.assertEqual(min(number for number in numbers if number >= 10), 10)
        for what in range(3):
            self.check(1, 9, what, 1, [1, 57])
            self.check(1, 10, what, 2, [2, 49, 48])
            self.check(1, 10, what, 1, [-1])

    def test_most(self):
        for n, colours, what in CALLS:
            wanted = answer_of(count_by_formula(n, colours, what))
            bytes_of_it = len(wanted) - 1
            for most in (bytes_of_it, bytes_of_it + 1, GREATEST):
                self.check(n, colours, what, most, wanted)
            for most in (bytes_of_it - 1, 0):
                self.check(n, colours, what, most, [-1])


class Refusals(Checks):
    wrong_n = (0, 9, 64, 65, -1, LEAST, GREATEST)
    wrong_colours = (0, 11, -1, LEAST, GREATEST)
    wrong_what = (-1, 3, LEAST, GREATEST)
    wrong_most = (-1, LEAST)

    def test_one_out_of_its_range(self):
        # With most 0 and 1 it's too small as well: -2 comes before -1.
        for most in (0, 1, 100, GREATEST):
            for n in self.wrong_n:
                self.check(n, 2, 1, most, [-2])
            for colours in self.wrong_colours:
                self.check(5, colours, 1, most, [-2])
            for what in self.wrong_what:
                self.check(5, 2, what, most, [-2])
        for most in self.wrong_most:
            self.check(5, 2, 1, most, [-2])

    def test_one_out_of_its_range_beside_each_end_of_the_others(self):
        for n, colours, what in itertools.product((1, 8), (1, 10), (0, 2)):
            for most in (0, GREATEST):
                for wrong in self.wrong_n:
                    self.check(wrong, colours, what, most, [-2])
                for wrong in self.wrong_colours:
                    self.check(n, wrong, what, most, [-2])
                for wrong in self.wrong_what:
                    self.check(n, colours, wrong, most, [-2])
            for wrong in self.wrong_most:
                self.check(n, colours, what, wrong, [-2])

    def test_several_out_of_their_range(self):
        calls = itertools.product(
            self.wrong_n + (5,),
            self.wrong_colours + (2,),
            self.wrong_what + (1,),
            self.wrong_most + (0, 100),
        )
        for n, colours, what, most in calls:
            wrong = (n in self.wrong_n, colours in self.wrong_colours, what in self.wrong_what, most < 0)
            if any(wrong):
                self.check(n, colours, what, most, [-2])


class Interface(Checks):
    def test_the_names_of_the_arguments(self):
        self.assertEqual(list(inspect.signature(count).parameters), ["n", "colours", "what", "most"])
        self.assertEqual(count(most=2, what=0, colours=2, n=3), [2, 54, 52])

    def test_how_many_bytes_then_they(self):
        for n, colours, what in CALLS:
            answer = count(n, colours, what, GREATEST)
            self.assertIs(type(answer), list)
            self.assertEqual({type(number) for number in answer}, {int})
            self.assertEqual(len(answer), answer[0] + 1)
            self.assertLessEqual(set(answer[1:]), set(range(48, 58)))
            self.assertNotEqual(answer[1], 48)

    def test_nothing_is_kept_from_one_call_to_the_next(self):
        calls = ((8, 10, 2, 100), (3, 2, 0, 2), (3, 2, 0, 1), (3, 2, 3, 1), (1, 10, 1, 2), (4, 3, 1, 9))
        first = [count(*call) for call in calls]
        wanted = [list(answer) for answer in first]
        for answer in first:
            answer.append(99)
        self.assertEqual([count(*call) for call in calls], wanted)
        for call, answer in reversed(list(zip(calls, wanted))):
            for ask in (cell, kind, alike):
                ask(3, [0, 1, 2, 1, 2, 0, 2, 0, 1])
            least(3, 2, [0, 1, 2, 1, 2, 0, 2, 0, 1])
            self.assertEqual(count(*call), answer)

    def test_the_slowest_call_ends_within_some_seconds(self):
        start = time.perf_counter()
        count(8, 10, 2, GREATEST)
        self.assertLess(time.perf_counter() - start, 5)


if __name__ == "__main__":
    unittest.main()
