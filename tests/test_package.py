"""The interface's last part, and what can be seen of the language rules at a glance."""

import ast
import builtins
import contextlib
import copy
import inspect
import io
import re
import unittest
from pathlib import Path

import linesteps
from linesteps import slopes
from tests.exact import FRACTIONS, ROOTS

FOLDER = Path(linesteps.__file__).parent
FILES = sorted(FOLDER.glob("*.py"))

# Each function, what it takes behind a, b, c, d, and one call with its answer.
CALLS = (
    ("height", {"n": 5}, [7]),
    ("sum_of", {"n": 5}, [12]),
    ("reach", {"m": 6}, [5]),
    ("place", {"m": 7}, [5]),
    ("steps", {"n": 3, "k": 4}, [0, 1, 2, 1, 1]),
    ("find", {"w": [2, 1, 1]}, [4]),
    ("rows", {"k": 3}, [4]),
    ("digits", {"k": 4}, [4, 1, 2, 2, 2]),
    ("near", {"most": 11}, [0, 7, 5]),
    ("order", {"n": 6}, [3, 0, 5, 3, 1, 4, 2]),
)
# The forms of the language that the package uses, all of them allowed.
FORMS = set(
    "Module Expr Constant FunctionDef arguments arg Assign Name Store Load Return If While For Break Call Attribute"
    " List Tuple ListComp comprehension Subscript Slice IfExp BinOp Add Sub Mult FloorDiv Mod UnaryOp USub Not BoolOp"
    " And Or Compare Lt LtE Gt GtE Eq NotEq".split()
)
BANNED = set(
    "type typing typing_extensions enum Enum IntEnum StrEnum Flag IntFlag Generic Protocol ABC ABCMeta namedtuple"
    " NamedTuple TypedDict TYPE_CHECKING abstractmethod register mro elements open input".split()
)
ROOT_OF_2 = {"a": 0, "b": 1, "c": 1, "d": 2}


def nodes():
    for file in FILES:
        for node in ast.walk(ast.parse(file.read_text(encoding="ascii"))):
            yield file.name, node


class Interface(unittest.TestCase):
    def test_arguments(self):
        for name, others, answer in CALLS:
            taken = list(inspect.signature(getattr(slopes, name)).parameters)
            self.assertEqual(taken, ["a", "b", "c", "d"] + list(others), name)

    def test_arguments_in_order(self):
        for name, others, answer in CALLS:
            self.assertEqual(getattr(slopes, name)(0, 1, 1, 2, *others.values()), answer, name)

    def test_arguments_by_name(self):
        for name, others, answer in CALLS:
            self.assertEqual(getattr(slopes, name)(**others, **ROOT_OF_2), answer, name)

    def test_prints_nothing(self):
        out, err = io.StringIO(), io.StringIO()
        with contextlib.redirect_stdout(out), contextlib.redirect_stderr(err):
            for name, others, answer in CALLS:
                getattr(slopes, name)(**ROOT_OF_2, **others)
        self.assertEqual((out.getvalue(), err.getvalue()), ("", ""))


def whole_round(slope):
    """Calls of all functions with this slope: the name, the arguments, and how long the answer is at most."""
    m = slopes.height(*slope, 41)[0]
    asked = [
        ("height", (1000000,), 1), ("sum_of", (90,), 1), ("reach", (m,), 1), ("place", (m,), 1),
        ("steps", (7, 12), 13), ("find", (slopes.steps(*slope, 30, 5)[1:],), 1), ("rows", (9,), 1), ("digits", (8,), 9),
        ("near", (25,), 3), ("order", (20,), 21),
    ]
    return [(name, slope + others, longest) for name, others, longest in asked if name != "order" or slope in ROOTS]


class WholeProgram(unittest.TestCase):
    def setUp(self):
        self.asked = [each for slope in FRACTIONS + ROOTS for each in whole_round(slope)]

    def answers(self, asked):
        return [getattr(slopes, name)(*given) for name, given, longest in asked]

    def test_lists_of_whole_numbers_of_the_right_length(self):
        for (name, given, longest), answer in zip(self.asked, self.answers(self.asked)):
            self.assertIs(type(answer), list, name)
            self.assertEqual({type(x) for x in answer}, {int}, (name, given))
            if name == "digits":
                self.assertEqual(len(answer), answer[0] + 1, given)
                self.assertLessEqual(len(answer), longest, given)
            else:
                self.assertEqual(len(answer), longest, (name, given))

    def test_leaves_what_is_handed_in(self):
        copies = copy.deepcopy(self.asked)
        self.answers(self.asked)
        self.assertEqual(self.asked, copies)

    def test_again_is_the_same_with_others_between(self):
        first = self.answers(self.asked)
        for answer in self.answers(self.asked):
            answer.clear()
        self.assertEqual(self.answers(self.asked[::-1])[::-1], first)
        by_name = sorted(range(len(self.asked)), key=lambda i: self.asked[i][0])
        again = self.answers([self.asked[i] for i in by_name])
        self.assertEqual(again, [first[i] for i in by_name])

    def test_never_the_list_that_was_handed_in(self):
        w = [1, 1]
        self.assertIsNot(slopes.find(0, 1, 1, 2, w), w)

    def test_every_call_of_the_document_is_held(self):
        held = {name for name, others, answer in CALLS}
        self.assertEqual(
            held,
            {"height", "sum_of", "reach", "place", "steps", "find", "rows", "digits", "near", "order"},
        )
        self.assertEqual({name for name, given, longest in self.asked}, held)


class Rules(unittest.TestCase):
    def test_nothing_else_lies_in_the_package(self):
        others = [p.name for p in FOLDER.iterdir() if p not in FILES and p.name != "__pycache__"]
        self.assertEqual(others, [])

    def test_imports_only_its_own(self):
        for name, node in nodes():
            self.assertNotIsInstance(node, ast.Import, name)
            if isinstance(node, ast.ImportFrom):
                self.assertTrue(node.level == 0 and node.module.startswith("linesteps."), name)

    def test_reads_and_prints_nothing(self):
        for name, node in nodes():
            if isinstance(node, ast.Name):
                self.assertNotIn(node.id, {"print", "input", "open", "exec", "eval"}, name)

    def test_no_float(self):
        for name, node in nodes():
            self.assertNotIsInstance(node, ast.Div, name)
            if isinstance(node, ast.Constant):
                self.assertNotIsInstance(node.value, (float, complex, bytes), name)

    def test_sizes(self):
        for file in FILES:
            lines = file.read_text(encoding="ascii").split("\n")
            self.assertLessEqual(len(lines), 400, file.name)
            self.assertLessEqual(max(len(line) for line in lines), 120, file.name)
            self.assertFalse(any("\t" in line for line in lines), file.name)
        for name, node in nodes():
            if isinstance(node, ast.FunctionDef):
                self.assertLessEqual(node.end_lineno - node.lineno + 1, 40, (name, node.name))

    def test_forms_of_the_language(self):
        for name, node in nodes():
            self.assertIn(node.__class__.__name__, FORMS, (name, getattr(node, "lineno", None)))
            if isinstance(node, ast.Assign):
                self.assertEqual(len(node.targets), 1, (name, node.lineno))
            if isinstance(node, (ast.For, ast.While)):
                self.assertEqual(node.orelse, [], (name, node.lineno))

    def test_names_of_the_language(self):
        own = {node.name for name, node in nodes() if isinstance(node, ast.FunctionDef)}
        bound = {node.id for name, node in nodes() if isinstance(node, ast.Name) and isinstance(node.ctx, ast.Store)}
        bound |= {node.arg for name, node in nodes() if isinstance(node, ast.arg)}
        self.assertEqual([each for each in own | bound if each.startswith("_") or hasattr(builtins, each)], [])
        for name, node in nodes():
            if isinstance(node, ast.Name) and node.id not in own | bound:
                self.assertIn(node.id, {"len", "range", "min", "max", "abs", "set"}, (name, node.lineno))
            if isinstance(node, ast.Attribute):
                self.assertIn(node.attr, {"append", "insert"}, (name, node.lineno))

    def test_words_that_stand_nowhere(self):
        for file in FILES:
            words = set(re.findall(r"\w+", file.read_text(encoding="ascii")))
            self.assertEqual(words & BANNED, set(), file.name)


if __name__ == "__main__":
    unittest.main()
