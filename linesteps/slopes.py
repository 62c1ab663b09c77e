"""The calls on a line through 0 whose slope is (a + b times the root of d) / c."""


def height(a, b, c, d, n):
    """Give back a list of one number: the height at n."""
    return [height_at(a, b, c, d, n)]


def sum_of(a, b, c, d, n):
    """Give back a list of one number: the sum of the heights at 0 up to n - 1."""
    total = 0
    for at in range(n):
        total = total + height_at(a, b, c, d, at)
    return [total]


def height_at(a, b, c, d, n):
    """Give back n times the slope, rounded down."""
    # c is whole and above 0: rounding down ahead of the division as well changes nothing.
    return (n * a + times_root(n * b, d)) // c


def times_root(factor, d):
    """Give back factor times the root of d, rounded down."""
    square = factor * factor * d
    root = whole_root(square)
    if factor >= 0:
        return root
    # Below 0, down is away from 0: only a root that is itself whole stays where it is.
    if root * root == square:
        return -root
    return -root - 1


def whole_root(square):
    """Give back the root of square (0 or more), rounded down."""
    if square == 0:
        return 0
    # Newton's way from above: the guesses fall until they are at the root, never below it.
    root = square
    lower = (root + square // root) // 2
    while lower < root:
        root = lower
        lower = (root + square // root) // 2
    return root
