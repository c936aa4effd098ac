"""What several tests use: squares, the movements straight by the document's words, and what holds of each call."""

import contextlib
import io

# The document's eight A, by their numbers.
WAYS = (
    lambda x, y: (x, y),
    lambda x, y: (-y, x),
    lambda x, y: (-x, -y),
    lambda x, y: (y, -x),
    lambda x, y: (-x, y),
    lambda x, y: (x, -y),
    lambda x, y: (y, x),
    lambda x, y: (-y, -x),
)


def square(n, colour):
    """The square of n n colours, row by row, with the colour that colour(x, y) tells."""
    return [colour(x, y) for y in range(n) for x in range(n)]


def every_square(n, colours):
    """Each square of n n colours, of so many."""
    for number in range(colours ** (n * n)):
        yield [number // colours ** i % colours for i in range(n * n)]


def moved(movement, x, y):
    """Where the movement (A, a, b) takes x, y."""
    way, a, b = movement
    image = WAYS[way](x, y)
    return image[0] + a, image[1] + b


def is_symmetry(n, p, movement):
    """Whether each place and where it's taken have one colour."""
    for place, colour in enumerate(p):
        x, y = moved(movement, place % n, place // n)
        if p[y % n * n + x % n] != colour:
            return False
    return True


def symmetries_by_search(n, p, shifts):
    """Each symmetry, of all movements with both parts of the shift among these numbers."""
    # The colours begin again at n, so that each shift is tried modulo n alone.
    tried = {
        (way, a, b): is_symmetry(n, p, (way, a, b))
        for way in range(8)
        for a in range(n)
        for b in range(n)
    }
    return [
        (way, a, b)
        for way in range(8)
        for a in shifts
        for b in shifts
        if tried[way, a % n, b % n]
    ]


def square_left_by(n, movements):
    """A square where places have one colour only if the movements, over and over, lead from one to the other."""
    p = [None] * (n * n)
    for start in range(n * n):
        if p[start] is None:
            p[start] = start
            reached = [start]
            for place in reached:
                for movement in movements:
                    x, y = moved(movement, place % n, place // n)
                    image = y % n * n + x % n
                    if p[image] is None:
                        p[image] = start
                        reached.append(image)
    return p


def squares_with_symmetries(n, how_many):
    """Squares that made-up movements leave as they are, the same each time; every other one with few colours."""
    number = n
    for _ in range(how_many):
        parts = []
        for _ in range(9):
            number = (number * 1103515245 + 12345) % 2 ** 31
            parts.append(number // 2 ** 12)
        movements = [(parts[i] % 8, parts[i + 1] % n, parts[i + 2] % n) for i in range(0, 6, 3)]
        p = square_left_by(n, movements[: 1 + parts[6] % 2])
        yield p
        yield [(colour * parts[7] + parts[8]) % 101 % 3 for colour in p]


class FixedList(list):
    """A list that can't be changed, not for a while either."""

    def refuse(self, *args, **kwargs):
        raise AssertionError("the list that was handed in is changed")

    __setitem__ = __delitem__ = __iadd__ = __imul__ = refuse
    append = clear = extend = insert = pop = remove = reverse = sort = refuse


class AnswerChecks:
    """How a test checks what ask, the function that it is about, answers."""

    def check(self, n, p, wanted):
        self.assertEqual(len(p), n * n)
        with self.subTest(n=n, p=p):
            self.assertEqual(self.ask(n, p), wanted)

    def check_rows(self, rows, wanted):
        """rows: a text whose words are the rows, each sign a colour."""
        rows = rows.split()
        self.check(len(rows), [ord(sign) for row in rows for sign in row], wanted)


class SquareCalls:
    """What the document says of each function that is asked with n and p; ask is that function."""

    calls = (
        (1, (255,)),
        (2, (0, 1, 1, 0)),
        (3, (0, 1, 2, 1, 3, 4, 2, 4, 5)),
        (4, (1, 2, 1, 2, 3, 4, 3, 4, 1, 2, 1, 2, 3, 4, 3, 4)),
        (5, (0, 255, 255, 255, 255) * 5),
        (6, tuple(range(36))),
        (0, ()),
        (65, ()),
    )

    def test_n_out_of_its_range(self):
        for n in (0, -1, -2147483648, 65, 2147483647):
            with self.subTest(n=n):
                self.assertEqual(self.ask(n, []), [-2])

    def test_a_list_of_whole_numbers(self):
        for n, p in self.calls:
            answer = self.ask(n, list(p))
            self.assertIs(type(answer), list)
            self.assertEqual({type(number) for number in answer}, {int})

    def test_the_names_of_the_arguments(self):
        for n, p in self.calls:
            self.assertEqual(self.ask(p=list(p), n=n), self.ask(n, list(p)))

    def test_what_is_handed_in_stays_as_it_was(self):
        for n, p in self.calls:
            handed_in = FixedList(p)
            self.ask(n, handed_in)
            self.assertEqual(list(handed_in), list(p))

    def test_nothing_is_kept_from_one_call_to_the_next(self):
        first = [self.ask(n, list(p)) for n, p in self.calls]
        wanted = [list(answer) for answer in first]
        for answer in first:
            answer.append(99)
        self.assertEqual([self.ask(n, list(p)) for n, p in self.calls], wanted)
        self.assertEqual([self.ask(n, list(p)) for n, p in reversed(self.calls)], wanted[::-1])

    def test_it_prints_nothing(self):
        printed = io.StringIO()
        with contextlib.redirect_stdout(printed), contextlib.redirect_stderr(printed):
            for n, p in self.calls:
                self.ask(n, list(p))
        self.assertEqual(printed.getvalue(), "")
