"""Promise 4 (least), and what the row on -2 says of n and what."""

import inspect
import unittest

from planerepeats.patterns import least
from tests.squares import FixedList, SquareCalls, every_square, moved, square, squares_with_symmetries

# How many of the document's eight A each what means: the first ones.
HOW_MANY_WAYS = (1, 4, 8)


def made_by(n, p, movement):
    """The square of the pattern where each place has the colour of the one that is taken to it."""
    colours = {}
    for y in range(-n, n):
        for x in range(-n, n):
            colours[moved(movement, x, y)] = p[y % n * n + x % n]
    # Each place of the square is reached more than once, from places that lie n apart.
    q = [None] * (n * n)
    for (x, y), colour in colours.items():
        place = y % n * n + x % n
        if q[place] is None:
            q[place] = colour
        elif q[place] != colour:
            raise AssertionError("what a movement makes does not begin again at n")
    return q


def least_by_search(n, what, p):
    """The answer of least, straight by the document's words."""
    patterns = []
    for way in range(HOW_MANY_WAYS[what]):
        for a in range(n):
            for b in range(n):
                q = made_by(n, p, (way, a, b))
                if q not in patterns:
                    patterns.append(q)
    first = patterns[0]
    for q in patterns:
        differing = [i for i in range(n * n) if q[i] != first[i]]
        if differing and q[differing[0]] < first[differing[0]]:
            first = q
    return [len(patterns)] + first


def least_by_steps(n, what, p):
    """The same in another way: single steps on rows, done over and over until they make nothing new."""
    steps = [
        lambda rows: rows[1:] + rows[:1],
        lambda rows: tuple(row[1:] + row[:1] for row in rows),
    ]
    if what >= 1:
        steps.append(lambda rows: tuple(zip(*rows[::-1])))
    if what == 2:
        steps.append(lambda rows: rows[::-1])
    start = tuple(tuple(p[y * n:(y + 1) * n]) for y in range(n))
    reached = {start: True}
    waiting = [start]
    while waiting:
        rows = waiting.pop()
        for step in steps:
            other = step(rows)
            if other not in reached:
                reached[other] = True
                waiting.append(other)
    return [len(reached)] + [colour for row in min(reached) for colour in row]


def colours_of(rows):
    """The side and the colours of a text whose words are the rows, each sign a colour: 0 to 9."""
    rows = rows.split()
    return len(rows), [int(sign) for row in rows for sign in row]


class Checks(unittest.TestCase):
    def check(self, n, what, p, wanted):
        self.assertEqual(len(p), n * n)
        with self.subTest(n=n, what=what, p=p):
            self.assertEqual(least(n, what, p), wanted)

    def check_rows(self, rows, *wanted):
        """wanted: for what 0, 1 and 2 how many patterns there are, and the first one's rows."""
        n, p = colours_of(rows)
        for what, (how_many, first) in enumerate(wanted):
            self.check(n, what, p, [how_many] + colours_of(first)[1])

    def check_by_search(self, n, p):
        for what in range(3):
            self.check(n, what, p, least_by_search(n, what, p))

    def check_by_steps(self, n, p):
        for what in range(3):
            self.check(n, what, p, least_by_steps(n, what, p))


class ByHand(Checks):
    def test_n_2(self):
        self.check_rows("10 01", (2, "01 10"), (2, "01 10"), (2, "01 10"))
        self.check_rows("01 00", (4, "00 01"), (4, "00 01"), (4, "00 01"))
        # Turned, columns are rows.
        self.check_rows("11 00", (2, "00 11"), (4, "00 11"), (4, "00 11"))
        self.check_rows("10 10", (2, "01 01"), (4, "00 11"), (4, "00 11"))
        self.check_rows("32 10", (4, "01 23"), (8, "01 23"), (8, "01 23"))
        self.check_rows("02 13", (4, "02 13"), (8, "01 23"), (8, "01 23"))

    def test_n_3(self):
        # x + y alone tells the colour: A 2 makes it run the other way, A 1 makes it x - y.
        self.check_rows("021 210 102", (3, "021 210 102"), (12, "012 120 201"), (12, "012 120 201"))
        # Each row differs, and a mirror leaves it: turned over it's what turned it is.
        self.check_rows("011 233 455", (9, "011 233 455"), (36, "011 233 455"), (36, "011 233 455"))
        self.check_rows("110 332 554", (9, "011 233 455"), (36, "011 233 455"), (36, "011 233 455"))
        self.check_rows("010 000 000", (9, "000 000 001"), (9, "000 000 001"), (9, "000 000 001"))

    def test_n_4(self):
        columns = "0000 1111 2222 3333"
        self.check_rows("1230 1230 1230 1230", (4, "0123 0123 0123 0123"), (16, columns), (16, columns))
        self.check_rows("3333 2222 1111 0000", (4, "0000 3333 2222 1111"), (16, columns), (16, columns))
        # Shifts bring any row to the top and any column to the side; turns, mirrors make no others.
        wanted = (16, "0001 0010 1000 0100")
        self.check_rows("0100 1000 0010 0001", wanted, wanted, wanted)

    def test_n_5(self):
        # x + 2 y tells the colour, turned too; turned over it's x + 3 y.
        wanted = (5, "01111 11101 10111 11110 11011")
        over = "01111 11011 11110 10111 11101"
        self.check_rows("11011 01111 11101 10111 11110", wanted, wanted, (10, over))
        self.check_rows("10111 11101 01111 11011 11110", (5, over), (5, over), (10, over))

    def test_n_6(self):
        chequered = (2, "010101 101010 010101 101010 010101 101010")
        self.check_rows("101010 010101 101010 010101 101010 010101", chequered, chequered, chequered)
        rows = "000000 111111 222222 000000 111111 222222"
        self.check_rows(
            "120120 120120 120120 120120 120120 120120",
            (3, "012012 012012 012012 012012 012012 012012"),
            (12, rows),
            (12, rows),
        )

    def test_three_numbers_and_three_first_squares(self):
        # All colours differ. 0 comes first, then the least beside it: on its right 3, above it 1;
        # then, where 1 is on its right, what's above or below it: turned 3, turned over 2.
        self.check_rows(
            "032 845 167",
            (9, "032 845 167"),
            (36, "018 364 275"),
            (72, "018 275 364"),
        )

    def test_twice_as_many_at_each_what(self):
        # A 2 leaves it, so that turns make two of it, and turned over two more.
        self.check_rows("011 234 243", (9, "011 234 243"), (18, "011 234 243"), (36, "011 234 243"))
        self.check_rows("243 011 234", (9, "011 234 243"), (18, "011 234 243"), (36, "011 234 243"))


class AgainstThePlainSearch(Checks):
    def test_all_small_squares(self):
        for n, colours in ((1, 4), (2, 4), (3, 2)):
            for p in every_square(n, colours):
                self.check_by_search(n, p)
                self.check_by_steps(n, p)

    def test_some_squares_of_two_colours(self):
        for number in range(0, 2 ** 16, 523):
            self.check_by_search(4, [number // 2 ** i % 2 for i in range(16)])

    def test_squares_that_made_up_movements_leave(self):
        for n in range(3, 7):
            for p in squares_with_symmetries(n, 60):
                self.check_by_steps(n, p)
            for p in squares_with_symmetries(n, 6):
                self.check_by_search(n, p)


class Edges(Checks):
    def test_n_1(self):
        for what in range(3):
            for colour in (0, 1, 254, 255):
                self.check(1, what, [colour], [1, colour])

    def test_all_places_of_one_colour(self):
        for n in range(1, 7):
            for what in range(3):
                for colour in (0, 7, 255):
                    self.check(n, what, [colour] * (n * n), [1] + [colour] * (n * n))

    def test_no_movement_but_the_shifts_by_n(self):
        for n in range(3, 7):
            p = list(range(n * n))
            for what, times in enumerate((1, 4, 8)):
                # 0, 1 .. stand as they do in the first one, wherever they stood before.
                self.check(n, what, p, [times * n * n] + p)
                self.check(n, what, p[n:] + p[:n], [times * n * n] + p)

    def test_no_movement_but_the_shifts_by_n_with_few_colours(self):
        # Turned, the other 1 lies on the right of the first one and below it.
        turned = "122 212 232"
        self.check_rows("122 222 213", (9, "122 222 213"), (36, turned), (72, turned))

    def test_the_last_place_counts(self):
        for n in range(2, 7):
            for what in range(3):
                last = [9] * (n * n - 1)
                self.check(n, what, last + [9], [1] + last + [9])
                self.check(n, what, last + [255], [n * n] + last + [255])
                self.check(n, what, last + [0], [n * n, 0] + last)

    def test_squares_that_first_differ_as_late_as_they_can(self):
        # Squares that one makes of the other have the same colours: they differ in two places or more.
        self.check_rows("00 21", (4, "00 12"), (8, "00 12"), (8, "00 12"))
        self.check_rows("000 000 021", (9, "000 000 021"), (36, "000 000 012"), (36, "000 000 012"))
        for n in range(3, 7):
            zeros = [0] * (n * n - 2)
            for what in (1, 2):
                self.check(n, what, zeros + [2, 1], [4 * n * n] + zeros + [1, 2])
                self.check(n, what, zeros + [1, 2], [4 * n * n] + zeros + [1, 2])

    def test_the_first_is_the_one_handed_in_or_another(self):
        for what in range(3):
            self.check(2, what, [0, 1, 1, 0], [2, 0, 1, 1, 0])
            self.check(2, what, [1, 0, 0, 1], [2, 0, 1, 1, 0])
            self.check(3, what, [0, 0, 0, 0, 0, 0, 0, 0, 1], [9, 0, 0, 0, 0, 0, 0, 0, 0, 1])
            self.check(3, what, [0, 0, 0, 0, 1, 0, 0, 0, 0], [9, 0, 0, 0, 0, 0, 0, 0, 0, 1])

    def test_colours_0_and_255(self):
        for what in range(3):
            self.check(2, what, [255, 0, 0, 255], [2, 0, 255, 255, 0])
            self.check(2, what, [255, 255, 255, 0], [4, 0, 255, 255, 255])
            self.check(3, what, [255] + [0] * 8, [9] + [0] * 8 + [255])
        # Numbers are compared, not their signs: 9 comes ahead of 10 and 100.
        self.check(2, 0, [100, 10, 9, 255], [4, 9, 255, 100, 10])
        self.check(2, 1, [100, 10, 9, 255], [8, 9, 100, 255, 10])

    def test_each_square_that_it_makes_has_the_same_answer(self):
        for n in range(3, 7):
            for p in squares_with_symmetries(n, 2):
                for what, ways in enumerate(HOW_MANY_WAYS):
                    wanted = least(n, what, p)
                    for way in range(ways):
                        self.check(n, what, made_by(n, p, (way, 1, n - 1)), wanted)


class Refusals(unittest.TestCase):
    far = (-1, 3, -2147483648, 2147483647)

    def test_n_out_of_its_range(self):
        for n in (0, -1, -2147483648, 65, 2147483647):
            for what in (0, 1, 2) + self.far:
                with self.subTest(n=n, what=what):
                    self.assertEqual(least(n, what, []), [-2])

    def test_what_out_of_its_range(self):
        for n in range(1, 7):
            for what in self.far:
                with self.subTest(n=n, what=what):
                    self.assertEqual(least(n, what, list(range(n * n))), [-2])


class What0(SquareCalls, unittest.TestCase):
    ask = staticmethod(lambda n, p: least(n, 0, p))


class What1(SquareCalls, unittest.TestCase):
    ask = staticmethod(lambda n, p: least(n, 1, p))


class What2(SquareCalls, unittest.TestCase):
    ask = staticmethod(lambda n, p: least(n, 2, p))


class Interface(unittest.TestCase):
    def test_the_names_of_the_arguments(self):
        self.assertEqual(list(inspect.signature(least).parameters), ["n", "what", "p"])
        self.assertEqual(least(p=[1, 1, 0, 0], what=0, n=2), [2, 0, 0, 1, 1])
        self.assertEqual(least(2, 0, [1, 1, 0, 0]), [2, 0, 0, 1, 1])

    def test_how_many_then_each_colour(self):
        for n in range(1, 7):
            for what in range(3):
                self.assertEqual(len(least(n, what, square(n, lambda x, y: x * y % 5))), 1 + n * n)

    def test_the_list_that_is_given_back_is_another_one(self):
        p = [0, 0, 1, 1]
        answer = least(2, 0, p)
        self.assertIsNot(answer, p)
        answer[1] = 9
        answer.append(9)
        self.assertEqual(p, [0, 0, 1, 1])
        self.assertEqual(least(2, 0, p), [2, 0, 0, 1, 1])

    def test_a_refusal_changes_nothing(self):
        handed_in = FixedList([3, 2, 1, 0])
        self.assertEqual(least(2, 3, handed_in), [-2])
        self.assertEqual(list(handed_in), [3, 2, 1, 0])

    def test_the_same_list_with_other_colours(self):
        p = [1, 0, 0, 1]
        self.assertEqual(least(2, 1, p), [2, 0, 1, 1, 0])
        p[0] = 0
        self.assertEqual(least(2, 1, p), [4, 0, 0, 0, 1])


if __name__ == "__main__":
    unittest.main()
