"""Promise 3 (alike), and what the row on -2 says of n."""

import unittest

from planerepeats.patterns import alike
from tests.squares import AnswerChecks, SquareCalls, every_square, moved, square
from tests.squares import squares_with_symmetries, symmetries_by_search


def alike_by_search(n, p):
    """The answer of alike: for each place, the least of all that any symmetry takes to it."""
    found = symmetries_by_search(n, p, range(n))
    taken_to = {place: [] for place in range(n * n)}
    for place in range(n * n):
        for movement in found:
            x, y = moved(movement, place % n, place // n)
            taken_to[y % n * n + x % n].append(place)
    leasts = [min(taken_to[place]) for place in range(n * n)]
    return [len(set(leasts))] + leasts


class Checks(AnswerChecks, unittest.TestCase):
    ask = staticmethod(alike)

    def check_by_search(self, n, p):
        self.check(n, p, alike_by_search(n, p))


class ByHand(Checks):
    def test_by_a_turn_alone(self):
        # A 2 round the first place.
        self.check_rows("011 234 243", [5, 0, 1, 1, 3, 4, 5, 3, 5, 4])
        # A 2 round the middle of the places 0, 1, 4 and 5.
        self.check_rows("0123 1032 4567 5476", [8, 0, 1, 2, 3, 1, 0, 3, 2, 8, 9, 10, 11, 9, 8, 11, 10])
        # A 1 round each place of colour 0.
        wanted = [0, 1, 1, 1, 1, 1, 1, 1, 0, 1, 1, 0, 1, 1, 1, 1, 1, 1, 1, 0, 1, 1, 0, 1, 1]
        self.check_rows("01111 11101 10111 11110 11011", [2] + wanted)

    def test_by_a_mirror_alone(self):
        self.check_rows("011 233 455", [6, 0, 1, 1, 3, 4, 4, 6, 7, 7])
        self.check_rows("024 135 135", [6, 0, 1, 2, 3, 4, 5, 3, 4, 5])
        self.check_rows("012 134 245", [6, 0, 1, 2, 1, 4, 5, 2, 5, 8])
        self.check_rows("021 143 254", [6, 0, 1, 2, 2, 4, 5, 1, 7, 4])
        # The mirror lies between places.
        self.check_rows("0011 2233 4455 6677", [8, 0, 0, 2, 2, 4, 4, 6, 6, 8, 8, 10, 10, 12, 12, 14, 14])

    def test_by_a_shift_alone(self):
        self.check(
            6,
            square(6, lambda x, y: x % 3 + 3 * (y % 3)),
            [9] + square(6, lambda x, y: x % 3 + 6 * (y % 3)),
        )
        self.check(
            6,
            square(6, lambda x, y: (x + 3 * (y // 3)) % 6 + 10 * (y % 3)),
            [18] + square(6, lambda x, y: (x + 3 * (y // 3)) % 6 + 6 * (y % 3)),
        )

    def test_by_one_turned_over_with_no_mirror_alone(self):
        # (-x, y + 2), then (x + 2, -y).
        self.check_rows("0123 4567 0321 4765", [8, 0, 1, 2, 3, 4, 5, 6, 7, 0, 3, 2, 1, 4, 7, 6, 5])
        self.check_rows("0404 1537 2626 3715", [8, 0, 1, 0, 1, 4, 5, 6, 7, 8, 9, 8, 9, 6, 7, 4, 5])

    def test_by_several(self):
        self.check_rows("01 10", [2, 0, 1, 1, 0])
        self.check_rows("00 11", [2, 0, 0, 2, 2])
        self.check_rows("01 12", [3, 0, 1, 1, 3])
        self.check_rows("012 120 201", [3, 0, 1, 2, 1, 2, 0, 2, 0, 1])
        self.check_rows("0100 1000 0010 0001", [3, 0, 1, 2, 2, 1, 0, 2, 2, 2, 2, 1, 0, 2, 2, 0, 1])

    def test_one_place_of_another_colour(self):
        self.check_rows("10 00", [3, 0, 1, 1, 3])
        self.check_rows("100 000 000", [3, 0, 1, 1, 1, 4, 4, 1, 4, 4])
        self.check_rows("000 000 001", [3, 0, 0, 2, 0, 0, 2, 2, 2, 8])
        self.check_rows("1000 0000 0000 0000", [6, 0, 1, 2, 1, 1, 5, 6, 5, 2, 6, 10, 6, 1, 5, 6, 5])


class AgainstThePlainSearch(Checks):
    def test_all_small_squares(self):
        for n, colours in ((1, 4), (2, 4), (3, 2)):
            for p in every_square(n, colours):
                self.check_by_search(n, p)

    def test_some_squares_of_two_colours(self):
        for number in range(0, 2 ** 16, 61):
            self.check_by_search(4, [number // 2 ** i % 2 for i in range(16)])

    def test_squares_that_made_up_movements_leave(self):
        for n in range(3, 7):
            for p in squares_with_symmetries(n, 150):
                self.check_by_search(n, p)


class Edges(Checks):
    def test_n_1(self):
        for colour in (0, 1, 255):
            self.check(1, [colour], [1, 0])

    def test_all_places_of_one_colour(self):
        for n in range(1, 7):
            for colour in (0, 7, 255):
                self.check(n, [colour] * (n * n), [1] + [0] * (n * n))

    def test_no_symmetry_but_the_shifts_by_n(self):
        # With n 1 and 2 there are others too, but each of these leaves the places as they are.
        for n in range(1, 7):
            self.check(n, list(range(n * n)), [n * n] + list(range(n * n)))
            self.check(n, list(range(n * n, 0, -1)), [n * n] + list(range(n * n)))

    def test_places_of_one_colour_that_are_not_alike(self):
        self.check_rows("abb bbb bac", [9, 0, 1, 2, 3, 4, 5, 6, 7, 8])
        # One colour in both, but 1 is beside the other colour, and 4 is not.
        self.check_rows("100 000 000", [3, 0, 1, 1, 1, 4, 4, 1, 4, 4])

    def test_colours_0_and_255(self):
        self.check(2, [0, 255, 255, 0], [2, 0, 1, 1, 0])
        self.check(2, [0, 0, 255, 255], [2, 0, 0, 2, 2])
        self.check(3, [0, 0, 0, 255, 255, 255, 254, 254, 254], [3, 0, 0, 0, 3, 3, 3, 6, 6, 6])
        self.check(3, [255, 0, 0, 0, 0, 0, 0, 0, 0], [3, 0, 1, 1, 1, 4, 4, 1, 4, 4])


class Interface(SquareCalls, unittest.TestCase):
    ask = staticmethod(alike)

    def test_how_many_then_each_place(self):
        for n, p in self.calls:
            self.assertEqual(len(alike(n, list(p))), 1 if n in (0, 65) else 1 + n * n)

    def test_the_same_list_with_other_colours(self):
        p = [0, 1, 1, 0]
        self.assertEqual(alike(2, p), [2, 0, 1, 1, 0])
        p[3] = 2
        self.assertEqual(alike(2, p), [3, 0, 1, 1, 3])


if __name__ == "__main__":
    unittest.main()
