"""The package's files against the rules L1 to L28 of the language that it keeps to, as far as a test sees them."""

import ast
import builtins
import pathlib
import re
import unittest

import lanesort

FOLDER = pathlib.Path(lanesort.__file__).parent

STATEMENTS = (
    ast.Assign, ast.AugAssign, ast.If, ast.While, ast.For, ast.Return, ast.Break, ast.Continue, ast.Pass,
    ast.Raise, ast.Try, ast.Expr, ast.FunctionDef, ast.ClassDef, ast.ImportFrom,
)
EXPRESSIONS = (
    ast.BoolOp, ast.BinOp, ast.UnaryOp, ast.Lambda, ast.IfExp, ast.Dict, ast.ListComp, ast.Compare, ast.Call,
    ast.Constant, ast.Attribute, ast.Subscript, ast.Name, ast.List, ast.Tuple, ast.Slice, ast.JoinedStr,
    ast.FormattedValue,
)
OWN_NAMES = set(
    "len range enumerate zip min max sum abs sorted reversed int str bool list tuple dict set frozenset isinstance "
    "ord repr any all divmod Exception ValueError KeyError IndexError LookupError ZeroDivisionError".split()
)
METHODS = set(
    "append clear copy count endswith extend find get index insert isalnum isalpha isdigit islower isspace isupper "
    "items join keys ljust lower lstrip partition pop remove replace reverse rfind rjust rpartition rsplit rstrip "
    "setdefault split splitlines startswith strip update upper values zfill bit_length".split()
)
BUILT_IN_VALUES = {name for kind in (str, int, list, dict, set, bytes, tuple, float) for name in dir(kind)}
NOT_AS_VALUES = set(
    "items keys values pop update append clear extend insert remove reverse setdefault sort args encode format".split()
)
UNUSED = set(
    "register mro elements open input version_info with_traceback add_note attrgetter breakpoint builtins compile "
    "copyright credits delattr dir eval exec exit gc getattr globals hasattr help id importlib license locals "
    "methodcaller os quit setattr super type vars sys format format_map chr print".split()
)
UNWRITTEN = re.compile(
    r"\b(type|typing|typing_extensions|enum|Enum|IntEnum|StrEnum|Flag|IntFlag|Generic|Protocol|ABC|ABCMeta|namedtuple"
    r"|NamedTuple|TypedDict|TYPE_CHECKING|abstractmethod)\b|dataclass|overload|contextmanager"
)
WALKED = {"zip", "enumerate", "reversed", "range", "items", "keys", "values"}
WALKERS = {"list", "tuple", "dict", "sorted", "sum", "any", "all", "enumerate", "zip"}


def called(node):
    """The name that a call is of, or None."""
    if not isinstance(node, ast.Call):
        return None
    return node.func.id if isinstance(node.func, ast.Name) else getattr(node.func, "attr", None)


class LanguageTest(unittest.TestCase):
    @classmethod
    def setUpClass(cls):
        cls.texts = {path.name: path.read_text("ascii") for path in sorted(FOLDER.glob("*.py"))}
        cls.trees = {name: ast.parse(text) for name, text in cls.texts.items()}

    def nodes(self, *kinds):
        for name, tree in self.trees.items():
            for node in ast.walk(tree):
                if isinstance(node, kinds):
                    yield f"{name}:{getattr(node, 'lineno', 0)}", node

    def test_files(self):
        for path in FOLDER.iterdir():
            if path.name != "__pycache__":
                self.assertRegex(path.name, r"^(__init__|[a-z][a-z0-9_]*)\.py$")
                self.assertNotIn(path.stem, dir(builtins))

    def test_signs_and_sizes(self):
        for name, text in self.texts.items():
            self.assertRegex(text, r"\A[ -~\n]*\Z", name)
            lines = text.splitlines()
            self.assertLessEqual(len(lines), 400, name)
            self.assertLessEqual(max(map(len, lines)), 120, name)
            self.assertIsNone(UNWRITTEN.search(text), name)
        for where, node in self.nodes(ast.FunctionDef):
            self.assertLessEqual(node.end_lineno - node.lineno + 1, 40, where)

    def test_imports(self):
        drawn = {}
        for name, tree in self.trees.items():
            drawn[name] = set()
            for node in tree.body:
                if isinstance(node, ast.ImportFrom):
                    self.assertEqual(node.level, 0)
                    package, module = node.module.split(".")
                    self.assertEqual(package, "lanesort")
                    source = self.trees[module + ".py"]
                    defined = {part.name for part in source.body if hasattr(part, "name")}
                    defined |= {part.targets[0].id for part in source.body if isinstance(part, ast.Assign)}
                    for alias in node.names:
                        self.assertIsNone(alias.asname)
                        self.assertIn(alias.name, defined)
                    drawn[name].add(module + ".py")
        left = set(drawn)
        while left:
            free = {name for name in left if not drawn[name] & left}
            self.assertTrue(free, f"these draw from one another: {left}")
            left -= free

    def test_imported_names_are_used_and_not_hidden(self):
        for name, tree in self.trees.items():
            imported = [a.name for node in tree.body if isinstance(node, ast.ImportFrom) for a in node.names]
            self.assertEqual(len(imported), len(set(imported)), name)
            read = {node.id for node in ast.walk(tree) if isinstance(node, ast.Name)}
            self.assertLessEqual(set(imported), read, name)

    def test_top_of_a_module(self):
        for name, tree in self.trees.items():
            bound = []
            for node in tree.body:
                self.assertIsInstance(
                    node, (ast.Expr, ast.ImportFrom, ast.FunctionDef, ast.ClassDef, ast.Assign), (name, node.lineno)
                )
                if isinstance(node, ast.Assign):
                    self.check_plain_value(node.value, bound, True)
                    bound.append(node.targets[0].id)
                elif isinstance(node, ast.Expr):
                    self.assertIsInstance(node.value, ast.Constant)
                elif not isinstance(node, ast.ImportFrom):
                    bound.append(node.name)
            self.assertEqual(len(bound), len(set(bound)), name)

    def check_plain_value(self, node, bound, at_top):
        if isinstance(node, ast.Name):
            self.assertIn(node.id, bound)
        elif isinstance(node, (ast.Tuple, ast.List)):
            self.assertTrue(at_top or isinstance(node, ast.Tuple))
            for part in node.elts:
                self.check_plain_value(part, bound, False)
        elif isinstance(node, ast.Dict):
            self.assertTrue(at_top)
            for part in node.keys + node.values:
                self.check_plain_value(part, bound, False)
        else:
            self.assertIsInstance(node, ast.Constant)

    def test_statements_and_expressions(self):
        for where, node in self.nodes(ast.stmt):
            self.assertIsInstance(node, STATEMENTS, where)
        for where, node in self.nodes(ast.expr):
            self.assertIsInstance(node, EXPRESSIONS, where)
        for where, node in self.nodes(ast.Div, ast.MatMult, ast.Pow):
            self.fail(f"{where}: a sign that is out")
        for where, node in self.nodes(ast.Constant):
            self.assertIn(type(node.value), (int, str, bool, type(None)), where)
        for where, node in self.nodes(ast.While, ast.For):
            self.assertEqual(node.orelse, [], where)
        for where, node in self.nodes(ast.Assign):
            self.assertEqual(len(node.targets), 1, where)
            self.assertIsInstance(node.targets[0], (ast.Name, ast.Attribute, ast.Subscript), where)
        for where, node in self.nodes(ast.ListComp):
            self.assertEqual(len(node.generators), 1, where)
            self.assertLessEqual(len(node.generators[0].ifs), 1, where)
        for where, node in self.nodes(ast.Expr):
            self.assertIsInstance(node.value, (ast.Call, ast.Constant), where)
        for where, node in self.nodes(ast.Is, ast.IsNot, ast.Compare):
            if isinstance(node, ast.Compare) and isinstance(node.ops[0], (ast.Is, ast.IsNot)):
                self.assertIsInstance(node.comparators[0], ast.Constant, where)

    def test_functions_and_classes(self):
        for where, node in self.nodes(ast.FunctionDef):
            arguments = node.args
            self.assertEqual(node.decorator_list, [], where)
            self.assertFalse(arguments.vararg or arguments.kwarg or arguments.kwonlyargs, where)
            self.assertIsNone(node.returns, where)
            for argument in arguments.args:
                self.assertIsNone(argument.annotation, where)
        methods = set()
        values = set()
        for where, node in self.nodes(ast.ClassDef):
            self.assertLessEqual(len(node.bases), 1, where)
            for part in node.body:
                self.assertTrue(isinstance(part, ast.FunctionDef) or isinstance(part.value, ast.Constant), where)
            methods |= {part.name for part in node.body if isinstance(part, ast.FunctionDef)}
        for where, node in self.nodes(ast.Attribute):
            if isinstance(node.ctx, ast.Store):
                values.add(node.attr)
        self.assertEqual(methods & values, set())
        self.assertEqual(values & NOT_AS_VALUES, set())
        self.assertEqual((methods - {"__init__"}) & BUILT_IN_VALUES, set())

    def test_names(self):
        for name, tree in self.trees.items():
            top = {part.name for part in tree.body if hasattr(part, "name")}
            imported = {a.name for node in tree.body if isinstance(node, ast.ImportFrom) for a in node.names}
            classes = {part.name for part in tree.body if isinstance(part, ast.ClassDef)}
            bound = set()
            for node in ast.walk(tree):
                if isinstance(node, ast.arg):
                    bound.add(node.arg)
                elif isinstance(node, ast.Name) and isinstance(node.ctx, ast.Store):
                    bound.add(node.id)
            self.assertEqual(bound & (imported | classes), set(), name)
            self.assertEqual((bound | top) & set(dir(builtins)), set(), name)
            self.assertEqual((bound | top) & UNUSED, set(), name)
            for word in bound | top:
                self.assertRegex(word, r"^[A-Za-z][A-Za-z0-9_]*$")
            read = {node.id for node in ast.walk(tree) if isinstance(node, ast.Name)}
            self.assertLessEqual(read & set(dir(builtins)), OWN_NAMES, name)

    def test_methods_and_keywords(self):
        own = {node.name for _, node in self.nodes(ast.FunctionDef)}
        for where, node in self.nodes(ast.Call):
            if isinstance(node.func, ast.Attribute):
                self.assertIn(node.func.attr, METHODS | own, where)
                self.assertEqual(node.keywords, [], where)
            for keyword in node.keywords:
                self.assertIn((called(node), keyword.arg), (
                    ("sorted", "key"), ("sorted", "reverse"), ("min", "key"), ("max", "key"), ("min", "default"),
                    ("max", "default"), ("sum", "start"), ("enumerate", "start"),
                ), where)
            for argument in node.args:
                self.assertNotIsInstance(argument, ast.Starred, where)

    def test_walked_at_once(self):
        allowed = set()
        for _, node in self.nodes(ast.For, ast.comprehension):
            allowed.add(node.iter)
        for _, node in self.nodes(ast.Call):
            if called(node) in WALKERS and node.args:
                allowed.add(node.args[0])
            if called(node) in ("min", "max") and len(node.args) == 1:
                allowed.add(node.args[0])
        for where, node in self.nodes(ast.Call):
            if called(node) in WALKED:
                self.assertIn(node, allowed, where)

    def test_sets(self):
        allowed = set()
        for _, node in self.nodes(ast.Call):
            if called(node) in ("sorted", "len") and not node.keywords:
                parts = [node.args[0]]
                while parts:
                    part = parts.pop()
                    allowed.add(part)
                    if isinstance(part, ast.BinOp):
                        parts += [part.left, part.right]
        for where, node in self.nodes(ast.Call):
            if called(node) in ("set", "frozenset"):
                self.assertIn(node, allowed, where)

    def test_errors(self):
        for where, node in self.nodes(ast.ExceptHandler):
            self.assertIsInstance(node.type, ast.Name, where)
            self.assertNotIn(node.type.id, dir(builtins), where)
        for where, node in self.nodes(ast.Raise):
            self.assertIsInstance(node.exc, ast.Call, where)

    def test_dicts_and_lists_of_the_top_are_only_read(self):
        tables = set()
        for tree in self.trees.values():
            for node in tree.body:
                if isinstance(node, ast.Assign) and isinstance(node.value, (ast.Dict, ast.List)):
                    tables.add(node.targets[0].id)
        read = set()
        for _, node in self.nodes(ast.Subscript):
            if isinstance(node.ctx, ast.Load):
                read.add(node.value)
        for _, node in self.nodes(ast.Compare):
            read |= set(node.comparators)
        for where, node in self.nodes(ast.Name):
            if node.id in tables and isinstance(node.ctx, ast.Load):
                self.assertIn(node, read, where)


if __name__ == "__main__":
    unittest.main()
