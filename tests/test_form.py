"""The package's own files keep to the part of Python that can be checked here by reading them."""

import ast
import builtins
import pathlib
import re
import unittest

PACKAGE = pathlib.Path(__file__).resolve().parent.parent / "dayround"
FILES = sorted(path for path in PACKAGE.rglob("*") if path.is_file() and "__pycache__" not in path.parts)

ALLOWED_BUILTINS = set(
    "len range enumerate zip min max sum abs sorted reversed int str bool list tuple dict set frozenset isinstance "
    "ord repr any all divmod Exception ValueError TypeError KeyError IndexError LookupError ZeroDivisionError "
    "ArithmeticError OverflowError RuntimeError NotImplementedError AttributeError StopIteration".split()
)
BARRED_WORDS = re.compile(
    r"\b(type|typing|typing_extensions|enum|Enum|IntEnum|StrEnum|Flag|IntFlag|Generic|Protocol|ABC|ABCMeta|namedtuple"
    r"|NamedTuple|TypedDict|TYPE_CHECKING|abstractmethod)\b|dataclass|overload|contextmanager"
)
BARRED_NODES = (
    ast.With, ast.Match, ast.Delete, ast.Global, ast.Nonlocal, ast.Assert, ast.Yield, ast.YieldFrom, ast.Await,
    ast.AsyncFunctionDef, ast.AsyncFor, ast.AsyncWith, ast.SetComp, ast.DictComp, ast.GeneratorExp, ast.NamedExpr,
    ast.Starred, ast.Div, ast.Import,
)
OWN_METHODS = {"__init__"}
PYTHONS_METHODS = set(
    "append clear copy count endswith extend find get index insert isalnum isalpha isdigit islower isspace isupper "
    "items join keys ljust lower lstrip partition pop remove replace reverse rfind rjust rpartition rsplit rstrip "
    "setdefault split splitlines startswith strip update upper values zfill bit_length".split()
)


def trees():
    for path in FILES:
        yield path.name, ast.parse(path.read_text(encoding="utf-8"))


def bound_at_the_top(tree):
    for node in tree.body:
        if isinstance(node, (ast.FunctionDef, ast.ClassDef)):
            yield node.name
        elif isinstance(node, ast.Assign):
            yield node.targets[0].id


def imported(tree):
    for node in tree.body:
        if isinstance(node, ast.ImportFrom):
            for alias in node.names:
                yield node.module.split(".", 1)[1] + ".py", alias.name, alias.asname


def nodes():
    for path in FILES:
        for node in ast.walk(ast.parse(path.read_text(encoding="utf-8"))):
            yield path.name, node


class TheTopOfAFile(unittest.TestCase):
    def test_only_what_may_stand_there(self):
        for name, tree in trees():
            for node in tree.body[1:]:
                with self.subTest(file=name, line=node.lineno):
                    self.assertIsInstance(node, (ast.ImportFrom, ast.FunctionDef, ast.ClassDef, ast.Assign))
                    if isinstance(node, ast.Assign):
                        self.assertIsInstance(node.targets[0], ast.Name)
                        self.assertNotIsInstance(ast.literal_eval(node.value), (float, bytes, set))

    def test_a_docstring_first(self):
        for name, tree in trees():
            self.assertTrue(ast.get_docstring(tree), name)

    def test_each_name_is_bound_once(self):
        for name, tree in trees():
            names = list(bound_at_the_top(tree)) + [one for file, one, other in imported(tree)]
            self.assertEqual(len(names), len(set(names)), name)

    def test_names_are_drawn_from_the_file_that_defines_them(self):
        defined = {name: set(bound_at_the_top(tree)) for name, tree in trees()}
        for name, tree in trees():
            for file, one, other in imported(tree):
                self.assertIn(one, defined[file], name)
                self.assertIsNone(other, name)

    def test_no_two_files_draw_from_one_another(self):
        drawn = {name: {file for file, one, other in imported(tree)} for name, tree in trees()}
        while drawn:
            free = [name for name, files in drawn.items() if not files & set(drawn)]
            self.assertTrue(free, drawn)
            for name in free:
                del drawn[name]


class Names(unittest.TestCase):
    def test_no_parameter_or_local_hides_another_name(self):
        for name, tree in trees():
            barred = {one for file, one, other in imported(tree)} | set(dir(builtins))
            barred |= {node.name for node in tree.body if isinstance(node, ast.ClassDef)}
            for node in ast.walk(tree):
                if isinstance(node, ast.arg):
                    self.assertNotIn(node.arg, barred, name)
                if isinstance(node, ast.Name) and isinstance(node.ctx, ast.Store):
                    self.assertNotIn(node.id, barred, name)

    def test_functions_and_classes_have_names_of_their_own(self):
        for name, node in nodes():
            if isinstance(node, (ast.FunctionDef, ast.ClassDef)) and node.name not in OWN_METHODS:
                self.assertRegex(node.name, r"^[A-Za-z][A-Za-z0-9_]*$", name)
                self.assertFalse(hasattr(builtins, node.name), node.name)

    def test_methods_are_those_of_the_rules(self):
        for name, node in nodes():
            if isinstance(node, ast.Call) and isinstance(node.func, ast.Attribute):
                with self.subTest(file=name, line=node.lineno):
                    self.assertIn(node.func.attr, PYTHONS_METHODS)


class Form(unittest.TestCase):
    def test_the_files(self):
        self.assertIn("desk.py", [path.name for path in FILES])
        self.assertIn("__init__.py", [path.name for path in FILES])
        for path in FILES:
            self.assertRegex(path.name, r"^(__init__|[a-z][a-z0-9_]*)\.py$")

    def test_the_signs_and_the_size(self):
        for path in FILES:
            text = path.read_bytes().decode("utf-8")
            with self.subTest(file=path.name):
                self.assertRegex(text, r"\A[ -~\n]*\Z")
                self.assertLessEqual(len(text.splitlines()), 400)
                self.assertLessEqual(max(len(line) for line in text.splitlines()), 120)
                self.assertIsNone(BARRED_WORDS.search(text))

    def test_functions_are_short_and_plain(self):
        for name, node in nodes():
            if isinstance(node, ast.FunctionDef):
                with self.subTest(file=name, function=node.name):
                    self.assertLessEqual(node.end_lineno - node.lineno + 1, 40)
                    self.assertEqual(node.decorator_list, [])
                    self.assertIsNone(node.args.vararg or node.args.kwarg)
                    self.assertEqual(node.args.kwonlyargs, [])

    def test_only_the_package_itself_is_imported(self):
        for name, node in nodes():
            if isinstance(node, ast.ImportFrom):
                with self.subTest(file=name, line=node.lineno):
                    self.assertEqual(node.level, 0)
                    self.assertTrue(node.module.startswith("dayround."))
                    self.assertNotIn("*", [alias.name for alias in node.names])

    def test_no_statement_or_value_outside_the_rules(self):
        for name, node in nodes():
            with self.subTest(file=name, line=getattr(node, "lineno", 0)):
                self.assertNotIsInstance(node, BARRED_NODES)
                if isinstance(node, ast.Constant):
                    self.assertNotIsInstance(node.value, (float, bytes, complex))
                    self.assertNotIn("%", str(node.value))
                if isinstance(node, (ast.For, ast.While)):
                    self.assertEqual(node.orelse, [])
                if isinstance(node, ast.Assign):
                    self.assertEqual(len(node.targets), 1)

    def test_no_other_name_of_pythons_own(self):
        for name, node in nodes():
            if isinstance(node, ast.Name):
                with self.subTest(file=name, line=node.lineno):
                    self.assertFalse(node.id.startswith("_"))
                    if hasattr(builtins, node.id):
                        self.assertIn(node.id, ALLOWED_BUILTINS)
                        self.assertIsInstance(node.ctx, ast.Load)


if __name__ == "__main__":
    unittest.main()
