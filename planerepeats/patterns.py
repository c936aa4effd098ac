"""What can be asked of a square of colours that is laid side by side without end."""


def cell(n, p):
    """Answers 0, e, f, g and how many shifts of the square are symmetries; or -2."""
    if n < 1 or n > 64:
        return [-2]
    e = least_across(n, p)
    slanted = least_down(n, p, e)
    f = slanted[0]
    g = slanted[1]
    # e and g divide n, for the shifts by n are made of (e, 0) and (f, g) too:
    # so every g-th row of shifts holds n // e of them, wherever f lets them begin.
    return [0, e, f, g, (n // e) * (n // g)]


def least_across(n, p):
    """The least e above 0 so that the shift (e, 0) is a symmetry."""
    for e in range(1, n):
        if is_shift(n, p, e, 0):
            return e
    # The square itself stands again n places on, so that n needs no look.
    return n


def least_down(n, p, e):
    """The symmetric shift (f, g) with the least g above 0, and f from 0 to e - 1."""
    for g in range(1, n):
        for f in range(e):
            if is_shift(n, p, f, g):
                return (f, g)
    # With g = n the shift (0, n) is one, and e leaves no other f beside it.
    return (0, n)


def is_shift(n, p, a, b):
    """Whether each place and the one that the shift (a, b) takes it to have one colour."""
    for y in range(n):
        for x in range(n):
            if p[y * n + x] != p[(y + b) % n * n + (x + a) % n]:
                return False
    return True
