"""The calls on a line through 0 whose slope is (a + b times the root of d) / c."""

# The last place that is looked at for a height or for a row of steps.
LAST = 1000000


def height(a, b, c, d, n):
    """Give back a list of one number: the height at n."""
    return [height_at(a, b, c, d, n)]


def sum_of(a, b, c, d, n):
    """Give back a list of one number: the sum of the heights at 0 up to n - 1."""
    total = 0
    for at in range(n):
        total = total + height_at(a, b, c, d, at)
    return [total]


def reach(a, b, c, d, m):
    """Give back a list of one number: the first place from 0 on whose height is m or more, or -1."""
    if m <= 0:
        return [0]
    # A line that does not rise never gets above 0, so only upwards is looked.
    found = first_as_far(a, b, c, d, m, 1)
    if found > LAST:
        return [-1]
    return [found]


def place(a, b, c, d, m):
    """Give back a list of one number: the first place from 1 on whose height is m, or 0."""
    way = 1
    if height_at(a, b, c, d, 1) < 0:
        way = -1
    found = first_as_far(a, b, c, d, m, way)
    if found <= LAST and height_at(a, b, c, d, found) == m:
        return [found]
    return [0]


def steps(a, b, c, d, n, k):
    """Give back a list: 0, then the steps at n up to n + k - 1."""
    return [0] + steps_from(a, b, c, d, n, k)


def find(a, b, c, d, w):
    """Give back a list of one number: the first place from 0 on where w's numbers are the steps, or -1."""
    row = steps_from(a, b, c, d, 0, len(w))
    for n in range(LAST + 1):
        if row == w:
            return [n]
        row = row[1:] + steps_from(a, b, c, d, n + len(w), 1)
    return [-1]


def first_as_far(a, b, c, d, m, way):
    """Give back the first place from 1 on that is at m or beyond (way 1: above, -1: below), or LAST + 1."""
    low = 1
    high = LAST + 1
    # A straight line never turns back: behind the first such place all are such, so halving finds it.
    while low < high:
        middle = (low + high) // 2
        if way * (height_at(a, b, c, d, middle) - m) >= 0:
            high = middle
        else:
            low = middle + 1
    return low


def steps_from(a, b, c, d, n, k):
    """Give back the k steps at n and behind it."""
    found = []
    here = height_at(a, b, c, d, n)
    for at in range(n + 1, n + k + 1):
        following = height_at(a, b, c, d, at)
        found.append(following - here)
        here = following
    return found


def height_at(a, b, c, d, n):
    """Give back n times the slope, rounded down."""
    # c is whole and above 0: rounding down ahead of the division as well changes nothing.
    return (n * a + times_root(n * b, d)) // c


def times_root(factor, d):
    """Give back factor times the root of d, rounded down."""
    square = factor * factor * d
    root = whole_root(square)
    if factor >= 0:
        return root
    # Below 0, down is away from 0: only a root that is itself whole stays where it is.
    if root * root == square:
        return -root
    return -root - 1


def whole_root(square):
    """Give back the root of square (0 or more), rounded down."""
    if square == 0:
        return 0
    # Newton's way from above: the guesses fall until they are at the root, never below it.
    root = square
    lower = (root + square // root) // 2
    while lower < root:
        root = lower
        lower = (root + square // root) // 2
    return root
