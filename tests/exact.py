"""Heights and comparisons straight from their definitions, by squares alone: no root is ever worked out."""

# Fractions: b = 0, d = 0, d a square, and whole slopes among them.
FRACTIONS = (
    (0, 0, 1, 0), (1, 0, 1, 0), (-1, 0, 1, 0), (7, 0, 3, 2), (-7, 0, 3, 2), (5, 9, 8, 0), (-5, 9, 8, 0),
    (1, 2, 6, 4), (1, -2, 6, 4), (-1, -2, 7, 9), (-1, 2, 7, 9), (3, 5, 1000, 961), (3, -5, 1000, 961),
    (-6, 3, 4, 4), (1000, 1000, 999, 961), (-1000, -1000, 999, 961), (1000, 0, 1, 1000), (-1000, 0, 1000, 1000),
)
# Slopes that are no fraction, with a and b below 0 each alone and both.
ROOTS = (
    (0, 1, 1, 2), (0, -1, 1, 2), (1, 1, 2, 5), (-1, 1, 2, 5), (1, -1, 2, 5), (-1, -1, 2, 5), (3, 2, 7, 3),
    (-3, 2, 7, 3), (3, -2, 7, 3), (-3, -2, 7, 3), (32, -1, 1000, 999), (-31, 1, 1000, 1000), (0, 8, 12, 8),
    (1000, 1000, 1, 1000), (1000, -1000, 1, 1000), (-1000, 1000, 1, 1000), (-1000, -1000, 1, 1000),
    (1000, 1000, 1000, 999), (1000, -1000, 1000, 999), (-1000, 1000, 1000, 999), (-1000, -1000, 1000, 999),
    (999, -999, 998, 2),
)
SLOPES = FRACTIONS + ROOTS
# The ends of the ranges of a, b, c and d, with 0 between.
CORNERS = tuple(
    (a, b, c, d) for a in (-1000, 0, 1000) for b in (-1000, 0, 1000) for c in (1, 1000) for d in (0, 1000)
)


def signed_square(x):
    return x * x if x >= 0 else -x * x


def at_most_line(h, a, b, c, d, n):
    """Is h no more than n times the slope?  That is: c h - n a <= n b times the root of d."""
    return signed_square(c * h - n * a) <= signed_square(n * b) * d


def sign_of(x, y, d):
    """-1, 0 or 1: on which side of 0 x + y times the root of d lies."""
    one, other = signed_square(x), signed_square(-y) * d
    return (one > other) - (one < other)


def is_height(h, a, b, c, d, n):
    return at_most_line(h, a, b, c, d, n) and not at_most_line(h + 1, a, b, c, d, n)


def true_height(a, b, c, d, n):
    """The greatest whole number that is no more than n times the slope, by halving."""
    # The root of 1000 is below 32, so no slope is beyond 33000.
    low, high = -33000 * n - 1, 33000 * n + 1
    while high - low > 1:
        middle = (low + high) // 2
        if at_most_line(middle, a, b, c, d, n):
            low = middle
        else:
            high = middle
    return low


def true_heights(slope, count):
    """The heights at 0 up to count - 1, each one held against the definition."""
    least = true_height(*slope, 1)
    heights = [0]
    for n in range(1, count):
        h = heights[-1] + least
        if not is_height(h, *slope, n):
            h += 1
        assert is_height(h, *slope, n)
        heights.append(h)
    return heights


def true_steps(slope, count):
    """The steps at 0 up to count - 1."""
    heights = true_heights(slope, count + 1)
    return [later - earlier for earlier, later in zip(heights, heights[1:])]
