"""The movements of the plane, and which of them leave a pattern as it is.

A movement takes each place x, y to A(x, y) and a shift (a, b). way is the number of its A: 0 to 3
are turns, 4 to 7 are turned over.
"""


def turned(way, x, y):
    """Where A takes x, y."""
    images = ((x, y), (-y, x), (-x, -y), (y, -x), (-x, y), (x, -y), (y, x), (-y, -x))
    return images[way]


def taken(n, way, a, b, place):
    """The number of the square's place that, modulo n, a movement takes this one to."""
    image = turned(way, place % n, place // n)
    return (image[1] + b) % n * n + (image[0] + a) % n


def is_symmetry(n, p, way, a, b):
    """Whether each place and the one that the movement takes it to have one colour."""
    # A place n further on is taken n further on too, so that the square's own places are enough.
    for place in range(n * n):
        if p[place] != p[taken(n, way, a, b, place)]:
            return False
    return True


def movements_by(n, what):
    """Each movement whose shift is from 0 to n - 1 in both parts, as (way, a, b).

    what 0: those with A 0; 1: those with turns; 2: all.
    """
    found = []
    for way in range((1, 4, 8)[what]):
        for b in range(n):
            for a in range(n):
                found.append((way, a, b))
    return found


def symmetries(n, p):
    """Each symmetry whose shift is from 0 to n - 1 in both parts, as (way, a, b)."""
    return [movement for movement in movements_by(n, 2) if is_symmetry(n, p, movement[0], movement[1], movement[2])]


def made(n, p, way, a, b):
    """The square of the pattern that a movement makes of this one."""
    square = list(p)
    for place in range(n * n):
        square[taken(n, way, a, b, place)] = p[place]
    return square


def how_many_cycles(n, way, a, b):
    """How many sets of the square's places there are that a movement, over and over, leads round in."""
    seen = [False] * (n * n)
    cycles = 0
    for start in range(n * n):
        if not seen[start]:
            cycles += 1
            place = start
            while not seen[place]:
                seen[place] = True
                place = taken(n, way, a, b, place)
    return cycles


def has_mirror(n, p, way):
    """Whether some mirror has this A, which is turned over."""
    # Only with these shifts does A, done twice, leave each place; modulo n they begin again at n.
    for k in range(n):
        shift = ((k, 0), (0, k), (k, -k), (k, k))[way - 4]
        if is_symmetry(n, p, way, shift[0], shift[1]):
            return True
    return False


def is_mirror_through(n, p, way, x, y):
    """Whether the mirror with this A that leaves the point x / 2, y / 2 is a symmetry."""
    image = turned(way, x, y)
    a = x - image[0]
    b = y - image[1]
    # The mirror's shift is (a / 2, b / 2): no movement, if these aren't whole numbers.
    if a % 2 != 0 or b % 2 != 0:
        return False
    return is_symmetry(n, p, way, a // 2, b // 2)
