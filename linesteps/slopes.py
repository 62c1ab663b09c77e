"""The calls on a line through 0 whose slope is (a + b times the root of d) / c."""

# The last place that is looked at for a height or for a row of steps.
LAST = 1000000


def height(a, b, c, d, n):
    """Give back a list of one number: the height at n."""
    return [height_at(a, b, c, d, n)]


def sum_of(a, b, c, d, n):
    """Give back a list of one number: the sum of the heights at 0 up to n - 1."""
    total = 0
    for at in range(n):
        total = total + height_at(a, b, c, d, at)
    return [total]


def reach(a, b, c, d, m):
    """Give back a list of one number: the first place from 0 on whose height is m or more, or -1."""
    if m <= 0:
        return [0]
    # A line that does not rise never gets above 0, so only upwards is looked.
    found = first_as_far(a, b, c, d, m, 1)
    if found > LAST:
        return [-1]
    return [found]


def place(a, b, c, d, m):
    """Give back a list of one number: the first place from 1 on whose height is m, or 0."""
    way = 1
    if height_at(a, b, c, d, 1) < 0:
        way = -1
    found = first_as_far(a, b, c, d, m, way)
    if found <= LAST and height_at(a, b, c, d, found) == m:
        return [found]
    return [0]


def steps(a, b, c, d, n, k):
    """Give back a list: 0, then the steps at n up to n + k - 1."""
    return [0] + steps_from(a, b, c, d, n, k)


def find(a, b, c, d, w):
    """Give back a list of one number: the first place from 0 on where w's numbers are the steps, or -1."""
    row = steps_from(a, b, c, d, 0, len(w))
    for n in range(LAST + 1):
        if row == w:
            return [n]
        row = row[1:] + steps_from(a, b, c, d, n + len(w), 1)
    return [-1]


def rows(a, b, c, d, k):
    """Give back a list of one number: how many different rows of k steps the line has."""
    # The row at n hangs on n's part behind the point alone. As the part goes up from 0 to 1, each of
    # the k heights behind n's gets higher just once: k cuts, and k + 1 pieces with a row each.
    # The parts of a slope that is no fraction come into every piece, if only far out.
    if not is_fraction(b, d):
        return [k + 1]
    # A fraction's parts, and so its cuts, are only as many as its lower number says.
    return [min(k + 1, c // common_factor(a + times_root(b, d), c))]


def digits(a, b, c, d, k):
    """Give back a list: how many digits of the slope are told, then they, the first k or all."""
    if is_fraction(b, d):
        told = first_digits(a + times_root(b, d), 0, c, d, k)
    else:
        told = first_digits(a, b, c, d, k)
    return [len(told)] + told


def near(a, b, c, d, most):
    """Give back a list: 0, then the p and the q (1 to most) for which q times the slope is nearest to p."""
    best_p = height_at(a, b, c, d, 1)
    best_q = 1
    least = distance(a, b, c, d, best_p, best_q)
    for q in range(1, most + 1):
        low = height_at(a, b, c, d, q)
        # Only the two whole numbers around q times the slope can be nearest to it.
        for p in (low, low + 1):
            away = distance(a, b, c, d, p, q)
            # As near as the best is not enough: the least q, and of it the least p, came first.
            if is_less(away, least, d):
                best_p = p
                best_q = q
                least = away
    return [0, best_p, best_q]


def order(a, b, c, d, n):
    """Give back a list: how many different jumps there are, then the places 0 up to n - 1 by their parts."""
    placed = places_by_part(a, b, c, d, n)
    # Index -1 is the last place: the jump from it to the first is among them.
    jumps = [placed[i] - placed[i - 1] for i in range(n)]
    return [len(set(jumps))] + placed


def places_by_part(a, b, c, d, n):
    """Give back the places 0 up to n - 1 in the order of their parts behind the point, the least first."""
    placed = []
    parts = []
    for at in range(n):
        part = distance(a, b, c, d, height_at(a, b, c, d, at), at)
        spot = len(placed)
        while spot > 0 and is_less(part, parts[spot - 1], d):
            spot = spot - 1
        placed.insert(spot, at)
        parts.insert(spot, part)
    return placed


def distance(a, b, c, d, p, q):
    """Give back how far q times the slope is from p, times c: whole x, y that stand for x + y times the root of d."""
    x = q * a - p * c
    y = q * b
    if is_less((x, y), (0, 0), d):
        return (-x, -y)
    return (x, y)


def is_less(first, second, d):
    """Is the first number less than the second, each being x, y that stand for x + y times the root of d?"""
    x = first[0] - second[0]
    y = first[1] - second[1]
    # A number is below 0 just if it is below 0 when rounded down: no root need be worked out further.
    return x + times_root(y, d) < 0


def first_digits(x, y, z, d, k):
    """Give back the first k digits of (x + y times the root of d) / z, or all; y is 0 if it is a fraction."""
    told = []
    while len(told) < k:
        whole = height_at(x, y, z, d, 1)
        told.append(whole)
        x = x - whole * z
        if x == 0 and y == 0:
            break
        # 1 by what is left, with a whole number below the line again: both are taken times
        # x less y roots. That is never 0: y is 0 and x is not, or there is no fraction.
        below = x * x - y * y * d
        x = x * z
        y = -y * z
        factor = common_factor(common_factor(x, y), below)
        if below < 0:
            factor = -factor
        x = x // factor
        y = y // factor
        z = below // factor
    return told


def first_as_far(a, b, c, d, m, way):
    """Give back the first place from 1 on that is at m or beyond (way 1: above, -1: below), or LAST + 1."""
    low = 1
    high = LAST + 1
    # A straight line never turns back: behind the first such place all are such, so halving finds it.
    while low < high:
        middle = (low + high) // 2
        if way * (height_at(a, b, c, d, middle) - m) >= 0:
            high = middle
        else:
            low = middle + 1
    return low


def steps_from(a, b, c, d, n, k):
    """Give back the k steps at n and behind it."""
    found = []
    here = height_at(a, b, c, d, n)
    for at in range(n + 1, n + k + 1):
        following = height_at(a, b, c, d, at)
        found.append(following - here)
        here = following
    return found


def height_at(a, b, c, d, n):
    """Give back n times the slope, rounded down."""
    # c is whole and above 0: rounding down ahead of the division as well changes nothing.
    return (n * a + times_root(n * b, d)) // c


def is_fraction(b, d):
    """Is b times the root of d a whole number?  If not, no slope with this b and d is a fraction."""
    square = b * b * d
    root = whole_root(square)
    return root * root == square


def common_factor(first, second):
    """Give back the greatest number that divides both (0 or more; 0 only if both are 0)."""
    first = abs(first)
    second = abs(second)
    while second > 0:
        rest = first % second
        first = second
        second = rest
    return first


def times_root(factor, d):
    """Give back factor times the root of d, rounded down."""
    square = factor * factor * d
    root = whole_root(square)
    if factor >= 0:
        return root
    # Below 0, down is away from 0: only a root that is itself whole stays where it is.
    if root * root == square:
        return -root
    return -root - 1


def whole_root(square):
    """Give back the root of square (0 or more), rounded down."""
    if square == 0:
        return 0
    # Newton's way from above: the guesses fall until they are at the root, never below it.
    root = square
    lower = (root + square // root) // 2
    while lower < root:
        root = lower
        lower = (root + square // root) // 2
    return root
