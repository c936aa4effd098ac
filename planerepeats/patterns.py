"""What can be asked of a square of colours that is laid side by side without end."""

from planerepeats.movements import has_mirror, how_many_cycles, is_mirror_through, is_symmetry
from planerepeats.movements import made, movements_by, symmetries, taken


def cell(n, p):
    """Answers 0, e, f, g and how many shifts of the square are symmetries; or -2."""
    if not is_side(n):
        return [-2]
    e = least_across(n, p)
    slanted = least_down(n, p, e)
    f = slanted[0]
    g = slanted[1]
    # e and g divide n, for the shifts by n are made of (e, 0) and (f, g) too:
    # so every g-th row of shifts holds n // e of them, wherever f lets them begin.
    return [0, e, f, g, (n // e) * (n // g)]


def kind(n, p):
    """Answers which of the twelve kinds it is, and for each A 0, 1, or 2 if a mirror has it; or -2."""
    if not is_side(n):
        return [-2]
    found = symmetries(n, p)
    marks = marks_of_ways(n, p, found)
    if marks[1] > 0:
        answer = kind_of_turn_4(n, p, found, marks)
    elif marks[2] > 0:
        answer = kind_of_turn_2(n, p, found, marks)
    else:
        answer = kind_of_turn_1(n, p, found, marks)
    return [answer] + marks


def alike(n, p):
    """Answers how many places are the least of those alike, and for each place its least; or -2."""
    if not is_side(n):
        return [-2]
    found = symmetries(n, p)
    leasts = [None] * (n * n)
    how_many = 0
    for place in range(n * n):
        # Symmetries can be undone and done one after the other: where no lesser place is taken to
        # this one, it is the least for each that it is taken to.
        if leasts[place] is None:
            how_many += 1
            for way, a, b in found:
                leasts[taken(n, way, a, b, place)] = place
    return [how_many] + leasts


def least(n, what, p):
    """Answers how many patterns the movements make of it, by what, and the first of them; or -2."""
    if not is_side(n) or not is_what(what):
        return [-2]
    # A shift does the same as another one that is n further on, so that these make them all.
    squares = [tuple(made(n, p, way, a, b)) for way, a, b in movements_by(n, what)]
    return [len(set(squares))] + list(min(squares))


def count(n, colours, what, most):
    """Answers how many bytes the number of unlike squares has in decimal, then these bytes; or -1, -2."""
    if not 1 <= n <= 8 or not 1 <= colours <= 10 or not is_what(what) or most < 0:
        return [-2]
    decimal = str(unlike_squares(n, colours, what))
    if len(decimal) > most:
        return [-1]
    return [len(decimal)] + [ord(digit) for digit in decimal]


def is_side(n):
    """Whether a square may have n places on a side."""
    return 1 <= n <= 64


def is_what(what):
    """Whether what tells which movements are meant."""
    return 0 <= what <= 2


def unlike_squares(n, colours, what):
    """How many squares there are, if those that movements make of one another count as one."""
    powers = [1]
    for place in range(n * n):
        powers.append(powers[place] * colours)
    meant = movements_by(n, what)
    # Of k squares that movements make of one another each is left by one movement in k: together
    # they are left as often as there are movements. A movement leaves those squares that have one
    # colour in each of its cycles.
    left = sum([powers[how_many_cycles(n, way, a, b)] for way, a, b in meant])
    return left // len(meant)


def least_across(n, p):
    """The least e above 0 so that the shift (e, 0) is a symmetry."""
    for e in range(1, n):
        if is_symmetry(n, p, 0, e, 0):
            return e
    # The square itself stands again n places on, so that n needs no look.
    return n


def least_down(n, p, e):
    """The symmetric shift (f, g) with the least g above 0, and f from 0 to e - 1."""
    for g in range(1, n):
        for f in range(e):
            if is_symmetry(n, p, 0, f, g):
                return (f, g)
    # With g = n the shift (0, n) is one, and e leaves no other f beside it.
    return (0, n)


def marks_of_ways(n, p, found):
    """For each A from 0 to 7: 0 if no symmetry has it, else 1, or 2 if a mirror has it."""
    ways = [movement[0] for movement in found]
    marks = []
    for way in range(8):
        if way not in ways:
            marks.append(0)
        elif way >= 4 and has_mirror(n, p, way):
            marks.append(2)
        else:
            marks.append(1)
    return marks


def kind_of_turn_1(n, p, found, marks):
    """The kind, from 0 to 3, of a pattern that nothing turns."""
    most = max(marks[4:])
    if most == 0:
        return 0
    if most == 1:
        return 3
    if all_are_on_mirrors(n, p, found):
        return 1
    return 2


def kind_of_turn_2(n, p, found, marks):
    """The kind, from 4 to 8, of a pattern whose greatest turn is 2."""
    if max(marks[4:]) == 0:
        return 4
    mirrored = marks[4:].count(2)
    if mirrored == 0:
        return 8
    if mirrored == 1:
        return 7
    if all_are_on_mirrors(n, p, found):
        return 5
    return 6


def kind_of_turn_4(n, p, found, marks):
    """The kind, from 9 to 11, of a pattern whose greatest turn is 4."""
    if max(marks[4:]) == 0:
        return 9
    if some_turn_is_on_mirror(n, p, found):
        return 10
    return 11


def all_are_on_mirrors(n, p, found):
    """Whether each symmetry that is turned over is on a mirror."""
    over = [movement for movement in found if movement[0] >= 4]
    for way, a, b in over:
        # A shift less the shift along is that of the mirror through half the shift. With n added
        # to a that may be another mirror; n added to b, or once more, brings no third, modulo n.
        for longer in (a, a + n):
            if not is_mirror_through(n, p, way, longer, b):
                return False
    return True


def some_turn_is_on_mirror(n, p, found):
    """Whether some symmetry with A 1 and some mirror leave the same point."""
    turns = [movement for movement in found if movement[0] == 1]
    for turn, a, b in turns:
        # The point is (a - b) / 2, (a + b) / 2. With n added to a or b, the mirrors through it are,
        # modulo n, the same.
        for way in range(4, 8):
            if is_mirror_through(n, p, way, a - b, a + b):
                return True
    return False
