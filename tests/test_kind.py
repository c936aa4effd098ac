"""Promise 2 (kind), and what the row on -2 says of n."""

import unittest
from fractions import Fraction

from planerepeats.patterns import kind
from tests.squares import AnswerChecks, SquareCalls, every_square, is_symmetry, moved, square
from tests.squares import squares_with_symmetries, symmetries_by_search


def leaves_each_place(movement):
    """Whether the movement, done twice, leaves each of some places that lie in no one line."""
    return all(moved(movement, *moved(movement, x, y)) == (x, y) for x in (0, 1, 4) for y in (0, 1, 5))


def is_on_mirror(n, p, movement):
    """Whether the movement with the same A and its shift less its shift along is a symmetry too."""
    way, a, b = movement
    twice_x, twice_y = moved(movement, *moved(movement, 0, 0))
    across_a = a - Fraction(twice_x, 2)
    across_b = b - Fraction(twice_y, 2)
    if across_a.denominator != 1 or across_b.denominator != 1:
        return False
    return is_symmetry(n, p, (way, int(across_a), int(across_b)))


def points_left(n, movements):
    """Twice each point of the square, those half way between places too, that some of the movements leave."""
    twice = [(way, 2 * a, 2 * b) for way, a, b in movements]
    points = [(x, y) for x in range(2 * n) for y in range(2 * n)]
    return {point for movement in twice for point in points if moved(movement, *point) == point}


def kind_by_search(n, p):
    """The answer of kind, straight by the document's words, over all movements of these shifts."""
    # All that stand for different ones, and all that leave a point of the square alone.
    found = symmetries_by_search(n, p, range(-n, 2 * n + 1))
    ways = {way for way, a, b in found}
    over = [movement for movement in found if movement[0] >= 4]
    mirrors = [movement for movement in over if leaves_each_place(movement)]
    mirrored = {way for way, a, b in mirrors}
    marks = [2 if way in mirrored else int(way in ways) for way in range(8)]
    if 1 in ways:
        turns = [movement for movement in found if movement[0] == 1]
        answer = 9
        if over:
            answer = 10 if points_left(n, turns) & points_left(n, mirrors) else 11
    else:
        answer = 4 if 2 in ways else 0
        if mirrors and 2 in ways and len(mirrored) == 1:
            answer += 3
        elif mirrors:
            answer += 1 if all(is_on_mirror(n, p, movement) for movement in over) else 2
        elif over:
            answer += 4 if 2 in ways else 3
    return [answer] + marks


class Checks(AnswerChecks, unittest.TestCase):
    ask = staticmethod(kind)

    def check_by_search(self, n, p):
        self.check(n, p, kind_by_search(n, p))


class EachKindByHand(Checks):
    def test_0_nothing_turned_nothing_turned_over(self):
        # All colours differ: each place is left modulo n, and only A 0 does that with n above 2.
        for n in range(3, 7):
            self.check(n, list(range(n * n)), [0, 1, 0, 0, 0, 0, 0, 0, 0])
        self.check_rows("abb bbb bac", [0, 1, 0, 0, 0, 0, 0, 0, 0])

    def test_1_all_turned_over_are_on_mirrors(self):
        self.check_rows("011 233 455", [1, 1, 0, 0, 0, 2, 0, 0, 0])
        self.check_rows("024 135 135", [1, 1, 0, 0, 0, 0, 2, 0, 0])
        # x + y alone tells the colour, or x - y alone.
        self.check_rows("0123 1230 2301 3012", [1, 1, 0, 0, 0, 0, 0, 2, 0])
        self.check_rows("0123 3012 2301 1230", [1, 1, 0, 0, 0, 0, 0, 0, 2])
        # The shift (2, -2) makes the mirror (y + 2, x - 2) that (y + 4, x) is on.
        self.check_rows("0123 1435 2301 3514", [1, 1, 0, 0, 0, 0, 0, 2, 0])

    def test_2_mirrors_and_what_is_on_none(self):
        # The shift (2, 2) and the mirror make (-x + 2, y + 2), but (-x + 2, y) is no symmetry.
        self.check_rows("0121 3454 2101 5434", [2, 1, 0, 0, 0, 2, 0, 0, 0])
        self.check_rows("0325 1414 2503 1414", [2, 1, 0, 0, 0, 0, 2, 0, 0])
        # (y + 4, x) is a symmetry as all shifts by n are, but (y + 2, x - 2) is none.
        self.check_rows("0123 1456 2578 3689", [2, 1, 0, 0, 0, 0, 0, 2, 0])

    def test_3_turned_over_no_mirrors(self):
        # Half of n down, the row stands again from right to left; or the column from below.
        self.check_rows("0123 4567 0321 4765", [3, 1, 0, 0, 0, 1, 0, 0, 0])
        self.check_rows("0404 1537 2626 3715", [3, 1, 0, 0, 0, 0, 1, 0, 0])

    def test_4_turned_nothing_turned_over(self):
        self.check_rows("011 234 243", [4, 1, 0, 1, 0, 0, 0, 0, 0])

    def test_5_two_mirrors_that_all_turned_over_are_on(self):
        self.check_rows("00 11", [5, 1, 0, 1, 0, 2, 2, 0, 0])
        self.check_rows("01 23", [5, 1, 0, 1, 0, 2, 2, 0, 0])
        self.check_rows("011 233 233", [5, 1, 0, 1, 0, 2, 2, 0, 0])
        # x - y alone tells the colour.
        self.check_rows("0121 1012 2101 1210", [5, 1, 0, 1, 0, 0, 0, 2, 2])

    def test_6_two_mirrors_and_what_is_on_none(self):
        self.check_rows("011 123 132", [6, 1, 0, 1, 0, 0, 0, 2, 2])
        self.check_rows("0121 3434 2101 3434", [6, 1, 0, 1, 0, 2, 2, 0, 0])

    def test_7_mirrors_with_one_a(self):
        self.check_rows("0123 4565 0321 4565", [7, 1, 0, 1, 0, 1, 2, 0, 0])
        self.check_rows("0404 1535 2626 3515", [7, 1, 0, 1, 0, 2, 1, 0, 0])
        # x - y alone tells the colour, or x + y alone, and no place but half of one is a middle.
        self.check_rows("1100 0110 0011 1001", [7, 1, 0, 1, 0, 0, 0, 1, 2])
        self.check_rows("1001 0011 0110 1100", [7, 1, 0, 1, 0, 0, 0, 2, 1])

    def test_8_turned_and_turned_over_no_mirrors(self):
        # Four colours in each row and column: no mirror leaves one as it is.
        self.check_rows("0123 2301 1032 3210", [8, 1, 0, 1, 0, 1, 1, 0, 0])

    def test_9_turn_4_nothing_turned_over(self):
        # A 1 makes 2 (x + 2 y) of x + 2 y, modulo 5; A 4 takes (1, 2) to (4, 2).
        self.check_rows("01111 11101 10111 11110 11011", [9, 1, 1, 1, 1, 0, 0, 0, 0])

    def test_10_turn_4_on_a_mirror(self):
        self.check_rows("01 10", [10, 1, 1, 1, 1, 2, 2, 2, 2])
        self.check_rows("01 12", [10, 1, 1, 1, 1, 2, 2, 2, 2])
        self.check_rows("011 122 122", [10, 1, 1, 1, 1, 2, 2, 2, 2])
        for n in range(1, 7):
            self.check(n, [1] + [0] * (n * n - 1), [10, 1, 1, 1, 1, 2, 2, 2, 2])

    def test_11_turn_4_on_no_mirror(self):
        self.check_rows("0122 1022 2210 2201", [11, 1, 1, 1, 1, 1, 1, 2, 2])
        self.check_rows("0100 1000 0010 0001", [11, 1, 1, 1, 1, 1, 1, 2, 2])
        # Round 0, 0 and 3, 3 four places turn, the one way here and the other way there.
        self.check_rows(
            "000000 001000 000001 000000 010000 000010",
            [11, 1, 1, 1, 1, 1, 1, 2, 2],
        )

    def test_colours_told_by_one_direction(self):
        for n in range(3, 7):
            leaning = 1 if n % 2 == 0 else 2
            self.check(n, square(n, lambda x, y: x), [1, 1, 0, 0, 0, 0, 2, 0, 0])
            self.check(n, square(n, lambda x, y: y), [1, 1, 0, 0, 0, 2, 0, 0, 0])
            self.check(n, square(n, lambda x, y: (x + y) % n), [leaning, 1, 0, 0, 0, 0, 0, 2, 0])
            self.check(n, square(n, lambda x, y: (x - y) % n), [leaning, 1, 0, 0, 0, 0, 0, 0, 2])


class AgainstThePlainSearch(Checks):
    def test_all_small_squares(self):
        for n, colours in ((1, 3), (2, 4), (3, 2)):
            for p in every_square(n, colours):
                self.check_by_search(n, p)

    def test_some_squares_of_two_colours(self):
        for number in range(0, 2 ** 16, 131):
            self.check_by_search(4, [number // 2 ** i % 2 for i in range(16)])

    def test_squares_that_made_up_movements_leave(self):
        kinds = set()
        numbers = set()
        for n in range(3, 7):
            for p in squares_with_symmetries(n, 220):
                self.check_by_search(n, p)
                answer = kind(n, p)
                kinds.add(answer[0])
                numbers.update(enumerate(answer[1:]))
        self.assertEqual(kinds, set(range(12)))
        # As it is, each place is left: A 0 alone is never missing.
        wanted = {(0, 1)} | {(way, number) for way in (1, 2, 3) for number in (0, 1)}
        wanted |= {(way, number) for way in (4, 5, 6, 7) for number in (0, 1, 2)}
        self.assertEqual(numbers, wanted)


class Edges(Checks):
    def test_n_1(self):
        for colour in (0, 1, 255):
            self.check(1, [colour], [10, 1, 1, 1, 1, 2, 2, 2, 2])

    def test_all_places_of_one_colour(self):
        for n in range(1, 7):
            for colour in (0, 7, 255):
                self.check(n, [colour] * (n * n), [10, 1, 1, 1, 1, 2, 2, 2, 2])

    def test_half_a_shift_is_not_whole(self):
        # (y + 3, x) and (-y + 3, -x) shift along by 3 halves.
        self.check_rows("012 134 245", [2, 1, 0, 0, 0, 0, 0, 2, 0])
        self.check_rows("021 143 254", [2, 1, 0, 0, 0, 0, 0, 0, 2])
        self.check_rows("012 120 201", [2, 1, 0, 0, 0, 0, 0, 2, 0])
        # (y + 1, x) leaves the pattern, though no mirror with A 6 does.
        self.check_rows("1100 0110 0011 1001", [7, 1, 0, 1, 0, 0, 0, 1, 2])

    def test_1_beside_2(self):
        self.check_rows("0121 3454 2161 5434", [1, 1, 0, 0, 0, 2, 0, 0, 0])
        self.check_rows("0121 3454 2101 5434", [2, 1, 0, 0, 0, 2, 0, 0, 0])
        self.check_rows("0123 1435 2301 3514", [1, 1, 0, 0, 0, 0, 0, 2, 0])
        self.check_rows("0123 1435 2361 3514", [2, 1, 0, 0, 0, 0, 0, 2, 0])

    def test_5_beside_6(self):
        self.check_rows("0121 3434 2151 3434", [5, 1, 0, 1, 0, 2, 2, 0, 0])
        self.check_rows("0121 3434 2101 3434", [6, 1, 0, 1, 0, 2, 2, 0, 0])
        self.check_rows("0121 1012 2101 1210", [5, 1, 0, 1, 0, 0, 0, 2, 2])
        self.check_rows("3121 1012 2101 1210", [6, 1, 0, 1, 0, 0, 0, 2, 2])

    def test_10_beside_11_at_points_between_places(self):
        # In both, what A 1 turns round lies in the middle of four places.
        self.check_rows("1100 1100 0011 0011", [10, 1, 1, 1, 1, 2, 2, 2, 2])
        self.check_rows("0100 1000 0010 0001", [11, 1, 1, 1, 1, 1, 1, 2, 2])

    def test_10_beside_11_at_places(self):
        self.check_rows(
            "000000 001010 010001 000000 010001 001010",
            [10, 1, 1, 1, 1, 2, 2, 2, 2],
        )
        self.check_rows(
            "000000 001000 000001 000000 010000 000010",
            [11, 1, 1, 1, 1, 1, 1, 2, 2],
        )

    def test_colours_0_and_255(self):
        self.check(2, [0, 255, 255, 0], [10, 1, 1, 1, 1, 2, 2, 2, 2])
        self.check(2, [0, 0, 255, 255], [5, 1, 0, 1, 0, 2, 2, 0, 0])
        self.check(3, [0, 0, 0, 255, 255, 255, 254, 254, 254], [1, 1, 0, 0, 0, 2, 0, 0, 0])
        self.check(3, [0, 255, 255, 255, 255, 255, 255, 0, 1], [0, 1, 0, 0, 0, 0, 0, 0, 0])


class Interface(SquareCalls, unittest.TestCase):
    ask = staticmethod(kind)

    def test_nine_numbers(self):
        for n, p in self.calls:
            self.assertEqual(len(kind(n, list(p))), 1 if n in (0, 65) else 9)

    def test_the_same_list_with_other_colours(self):
        p = [0, 1, 1, 0]
        self.assertEqual(kind(2, p), [10, 1, 1, 1, 1, 2, 2, 2, 2])
        p[1] = 0
        p[2] = 0
        p[3] = 1
        self.assertEqual(kind(2, p), [10, 1, 1, 1, 1, 2, 2, 2, 2])
        p[2] = 1
        self.assertEqual(kind(2, p), [5, 1, 0, 1, 0, 2, 2, 0, 0])


if __name__ == "__main__":
    unittest.main()
