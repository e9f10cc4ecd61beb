"""The package keeps to the small part of the language: files, signs, sizes, statements, names."""

import ast
import os
import re
import unittest

FOLDER = os.path.join(os.path.dirname(os.path.abspath(__file__)), os.pardir, "carriage")

KINDS = (
    ast.Module, ast.ImportFrom, ast.alias, ast.FunctionDef, ast.ClassDef, ast.arguments, ast.arg,
    ast.Assign, ast.If, ast.While, ast.For, ast.Return, ast.Break, ast.Continue, ast.Pass, ast.Expr,
    ast.BinOp, ast.UnaryOp, ast.BoolOp, ast.Compare, ast.IfExp, ast.Call, ast.Attribute, ast.Subscript, ast.Slice,
    ast.Name, ast.Constant, ast.List, ast.Tuple, ast.Dict,
    ast.operator, ast.unaryop, ast.boolop, ast.cmpop, ast.expr_context,
)
WORDS = re.compile(
    r"\b(type|typing|typing_extensions|enum|Enum|IntEnum|StrEnum|Flag|IntFlag|Generic|Protocol|ABC|ABCMeta|namedtuple"
    r"|NamedTuple|TypedDict|TYPE_CHECKING|abstractmethod)\b|dataclass|overload|contextmanager")
PYTHONS_OWN = {"len", "range", "enumerate", "zip", "min", "max", "sum", "abs", "sorted", "reversed", "list", "tuple"}


def sources():
    for name in sorted(os.listdir(FOLDER)):
        if name != "__pycache__":
            with open(os.path.join(FOLDER, name), encoding="utf-8", newline="") as file:
                yield name, file.read()


def bound_names(tree):
    names = set()
    for node in ast.walk(tree):
        if isinstance(node, (ast.FunctionDef, ast.ClassDef)):
            names.add(node.name)
        elif isinstance(node, ast.arg):
            names.add(node.arg)
        elif isinstance(node, ast.alias):
            names.add(node.asname or node.name)
        elif isinstance(node, ast.Name) and isinstance(node.ctx, ast.Store):
            names.add(node.id)
    return names


class Form(unittest.TestCase):
    def test_files(self):
        self.assertEqual([name for name, text in sources()], ["__init__.py", "desk.py", "track.py"])

    def test_signs_and_sizes(self):
        for name, text in sources():
            self.assertRegex(text, r"\A[ -~\n]*\n\Z", name)
            lines = text.splitlines()
            self.assertLessEqual(len(lines), 400, name)
            self.assertLessEqual(max(len(line) for line in lines), 120, name)
            self.assertIsNone(WORDS.search(text), name)

    def test_functions_are_small(self):
        for name, text in sources():
            for node in ast.walk(ast.parse(text)):
                if isinstance(node, ast.FunctionDef):
                    self.assertLessEqual(node.end_lineno - node.lineno + 1, 40, (name, node.name))
                    self.assertEqual(node.decorator_list, [], (name, node.name))

    def test_statements_and_values(self):
        for name, text in sources():
            for node in ast.walk(ast.parse(text)):
                self.assertIsInstance(node, KINDS, (name, getattr(node, "lineno", 0)))
                self.assertNotIsInstance(node, (ast.Div, ast.MatMult), name)
                if isinstance(node, ast.Constant):
                    self.assertIn(type(node.value), (int, str, bool, type(None)), (name, node.lineno))
                if isinstance(node, ast.ImportFrom):
                    self.assertTrue(node.level == 0 and node.module.startswith("carriage."), (name, node.lineno))

    def test_names(self):
        for name, text in sources():
            tree = ast.parse(text)
            bound = bound_names(tree)
            self.assertEqual(bound & PYTHONS_OWN, set(), name)
            for word in bound - {"__init__"}:
                self.assertRegex(word, r"\A[A-Za-z][A-Za-z0-9_]*\Z", name)
            for node in ast.walk(tree):
                if isinstance(node, ast.Name):
                    self.assertIn(node.id, bound | PYTHONS_OWN, (name, node.lineno))


if __name__ == "__main__":
    unittest.main()
