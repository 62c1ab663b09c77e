"""The interface's last part, and what can be seen of the language rules at a glance."""

import ast
import contextlib
import inspect
import io
import unittest
from pathlib import Path

import linesteps
from linesteps import slopes

FOLDER = Path(linesteps.__file__).parent
FILES = sorted(FOLDER.glob("*.py"))

# Each function, what it takes behind a, b, c, d, and one call with its answer.
CALLS = (
    ("height", {"n": 5}, [7]),
    ("sum_of", {"n": 5}, [12]),
    ("reach", {"m": 6}, [5]),
    ("place", {"m": 7}, [5]),
    ("steps", {"n": 3, "k": 4}, [0, 1, 2, 1, 1]),
    ("find", {"w": [2, 1, 1]}, [4]),
    ("rows", {"k": 3}, [4]),
    ("digits", {"k": 4}, [4, 1, 2, 2, 2]),
)
ROOT_OF_2 = {"a": 0, "b": 1, "c": 1, "d": 2}


def nodes():
    for file in FILES:
        for node in ast.walk(ast.parse(file.read_text(encoding="ascii"))):
            yield file.name, node


class Interface(unittest.TestCase):
    def test_arguments(self):
        for name, others, answer in CALLS:
            taken = list(inspect.signature(getattr(slopes, name)).parameters)
            self.assertEqual(taken, ["a", "b", "c", "d"] + list(others), name)

    def test_arguments_in_order(self):
        for name, others, answer in CALLS:
            self.assertEqual(getattr(slopes, name)(0, 1, 1, 2, *others.values()), answer, name)

    def test_arguments_by_name(self):
        for name, others, answer in CALLS:
            self.assertEqual(getattr(slopes, name)(**others, **ROOT_OF_2), answer, name)

    def test_prints_nothing(self):
        out, err = io.StringIO(), io.StringIO()
        with contextlib.redirect_stdout(out), contextlib.redirect_stderr(err):
            for name, others, answer in CALLS:
                getattr(slopes, name)(**ROOT_OF_2, **others)
        self.assertEqual((out.getvalue(), err.getvalue()), ("", ""))


class Rules(unittest.TestCase):
    def test_nothing_else_lies_in_the_package(self):
        others = [p.name for p in FOLDER.iterdir() if p not in FILES and p.name != "__pycache__"]
        self.assertEqual(others, [])

    def test_imports_only_its_own(self):
        for name, node in nodes():
            self.assertNotIsInstance(node, ast.Import, name)
            if isinstance(node, ast.ImportFrom):
                self.assertTrue(node.level == 0 and node.module.startswith("linesteps."), name)

    def test_reads_and_prints_nothing(self):
        for name, node in nodes():
            if isinstance(node, ast.Name):
                self.assertNotIn(node.id, {"print", "input", "open", "exec", "eval"}, name)

    def test_no_float(self):
        for name, node in nodes():
            self.assertNotIsInstance(node, ast.Div, name)
            if isinstance(node, ast.Constant):
                self.assertNotIsInstance(node.value, (float, complex, bytes), name)

    def test_sizes(self):
        for file in FILES:
            lines = file.read_text(encoding="ascii").split("\n")
            self.assertLessEqual(len(lines), 400, file.name)
            self.assertLessEqual(max(len(line) for line in lines), 120, file.name)
            self.assertFalse(any("\t" in line for line in lines), file.name)
        for name, node in nodes():
            if isinstance(node, ast.FunctionDef):
                self.assertLessEqual(node.end_lineno - node.lineno + 1, 40, (name, node.name))


if __name__ == "__main__":
    unittest.main()
