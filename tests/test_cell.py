"""Promise 1 (cell), and what the row on -2 says of n."""

import unittest

from planerepeats.patterns import cell
from tests.squares import AnswerChecks, SquareCalls, every_square, square


def symmetric_shifts(n, p):
    """Every shift from 0 to n - 1 in both parts that is a symmetry, straight by the definition."""
    colours = {(x, y): p[y * n + x] for y in range(n) for x in range(n)}
    return {
        (a, b)
        for a in range(n)
        for b in range(n)
        if all(colours[(x + a) % n, (y + b) % n] == c for (x, y), c in colours.items())
    }


def cell_by_search(n, p):
    """The answer of cell, found by looking through all shifts from 0 to n in both parts."""
    shifts = symmetric_shifts(n, p)
    e = min(a for a in range(1, n + 1) if (a % n, 0) in shifts)
    g = min(b for b in range(1, n + 1) for a in range(n) if (a, b % n) in shifts)
    (f,) = [a for a in range(e) if (a, g % n) in shifts]
    return [0, e, f, g, len(shifts)]


def possible_cells(n):
    """Each e, f, g whose shifts have those by n among them."""
    return [
        (e, f, g)
        for e in range(1, n + 1)
        for g in range(1, n + 1)
        for f in range(e)
        if n % e == 0 and n % g == 0 and n // g * f % e == 0
    ]


def square_of_cell(n, e, f, g):
    """A square where two places have one colour only if a shift j (e, 0) + k (f, g) is between them."""
    return square(n, lambda x, y: y % g * e + (x - y // g * f) % e)


class OrdinarySquares(AnswerChecks, unittest.TestCase):
    ask = staticmethod(cell)

    def test_upright_cells(self):
        self.check(2, [0, 1, 0, 1], [0, 2, 0, 1, 2])
        self.check(2, [0, 0, 1, 1], [0, 1, 0, 2, 2])
        self.check(4, [1, 2, 1, 2, 3, 4, 3, 4, 1, 2, 1, 2, 3, 4, 3, 4], [0, 2, 0, 2, 4])
        self.check(6, square(6, lambda x, y: x % 3 + 10 * (y % 2)), [0, 3, 0, 2, 6])
        self.check(6, square(6, lambda x, y: x % 2 + 10 * (y % 3)), [0, 2, 0, 3, 6])

    def test_a_cell_is_told_by_all_rows_not_by_the_first(self):
        self.check(2, [0, 0, 0, 1], [0, 2, 0, 2, 1])
        self.check(3, [5, 5, 5, 5, 5, 5, 5, 6, 5], [0, 3, 0, 3, 1])
        self.check(4, [1, 1, 1, 1, 1, 2, 1, 2, 1, 1, 1, 1, 1, 2, 1, 2], [0, 2, 0, 2, 4])
        self.check(4, [1, 1, 1, 1, 1, 2, 1, 2, 1, 1, 1, 1, 2, 1, 2, 1], [0, 2, 1, 2, 4])

    def test_the_last_place_counts(self):
        for n in range(2, 7):
            with self.subTest(n=n):
                self.check(n, [9] * (n * n - 1) + [8], [0, n, 0, n, 1])

    def test_each_possible_cell(self):
        # How many there are is known: the subgroups of the shifts modulo n.
        for n, how_many in ((1, 1), (2, 5), (3, 6), (4, 15), (5, 8), (6, 30)):
            cells = possible_cells(n)
            self.assertEqual(len(cells), how_many)
            for e, f, g in cells:
                with self.subTest(n=n, e=e, f=f, g=g):
                    self.check(n, square_of_cell(n, e, f, g), [0, e, f, g, n * n // (e * g)])

    def test_all_small_squares_against_a_plain_search(self):
        for n, colours in ((1, 4), (2, 4), (3, 2)):
            for p in every_square(n, colours):
                with self.subTest(n=n, p=p):
                    self.check(n, p, cell_by_search(n, p))

    def test_some_squares_of_two_colours_against_a_plain_search(self):
        for number in range(0, 2 ** 16, 31):
            p = [number // 2 ** i % 2 for i in range(16)]
            with self.subTest(p=p):
                self.check(4, p, cell_by_search(4, p))

    def test_cells_with_few_colours_against_a_plain_search(self):
        for n in range(1, 7):
            for e, f, g in possible_cells(n):
                for colours in (2, 3, 5):
                    p = [c * c % 7 % colours for c in square_of_cell(n, e, f, g)]
                    with self.subTest(n=n, p=p):
                        self.check(n, p, cell_by_search(n, p))


class Edges(unittest.TestCase):
    def test_n_1(self):
        for colour in (0, 1, 255):
            self.assertEqual(cell(1, [colour]), [0, 1, 0, 1, 1])

    def test_all_places_of_one_colour(self):
        for n in range(1, 7):
            for colour in (0, 7, 255):
                self.assertEqual(cell(n, [colour] * (n * n)), [0, 1, 0, 1, n * n])

    def test_no_shift_but_those_by_n(self):
        self.assertEqual(cell(2, [1, 2, 3, 4]), [0, 2, 0, 2, 1])
        self.assertEqual(cell(3, [1, 1, 0, 1, 0, 0, 0, 0, 0]), [0, 3, 0, 3, 1])
        for n in range(1, 7):
            self.assertEqual(cell(n, list(range(n * n))), [0, n, 0, n, 1])

    def test_repeats_along_one_direction_only(self):
        for n in range(1, 7):
            with self.subTest(n=n):
                self.assertEqual(cell(n, square(n, lambda x, y: x)), [0, n, 0, 1, n])
                self.assertEqual(cell(n, square(n, lambda x, y: y)), [0, 1, 0, n, n])
                self.assertEqual(cell(n, square(n, lambda x, y: (x - y) % n)), [0, n, 1 % n, 1, n])
                self.assertEqual(cell(n, square(n, lambda x, y: (x + y) % n)), [0, n, n - 1, 1, n])

    def test_slanted_shifts(self):
        self.assertEqual(cell(2, [0, 1, 1, 0]), [0, 2, 1, 1, 2])
        self.assertEqual(cell(3, [0, 1, 2, 1, 2, 0, 2, 0, 1]), [0, 3, 2, 1, 3])
        self.assertEqual(cell(4, square(4, lambda x, y: (x + 2 * y) % 4)), [0, 4, 2, 1, 4])
        self.assertEqual(cell(4, square(4, lambda x, y: (2 * x + y) % 4)), [0, 2, 1, 2, 4])
        self.assertEqual(cell(5, square(5, lambda x, y: int((x + 2 * y) % 5 == 0))), [0, 5, 3, 1, 5])
        self.assertEqual(cell(6, square(6, lambda x, y: (x + 3 * y) % 6)), [0, 6, 3, 1, 6])
        self.assertEqual(cell(6, square(6, lambda x, y: (x + y) % 2)), [0, 2, 1, 1, 18])

    def test_colours_0_and_255(self):
        self.assertEqual(cell(2, [0, 255, 255, 0]), [0, 2, 1, 1, 2])
        self.assertEqual(cell(2, [0, 255, 0, 255]), [0, 2, 0, 1, 2])
        self.assertEqual(cell(2, [255, 0, 0, 0]), [0, 2, 0, 2, 1])
        self.assertEqual(cell(3, [255, 255, 255, 0, 0, 0, 254, 254, 254]), [0, 1, 0, 3, 3])
        self.assertEqual(cell(6, [255] + [0] * 35), [0, 6, 0, 6, 1])


class Interface(SquareCalls, unittest.TestCase):
    ask = staticmethod(cell)

    def test_the_same_list_with_other_colours(self):
        p = [0, 1, 1, 0]
        self.assertEqual(cell(2, p), [0, 2, 1, 1, 2])
        p[3] = 2
        self.assertEqual(cell(2, p), [0, 2, 0, 2, 1])


if __name__ == "__main__":
    unittest.main()
