"""Holds the package's files to those rules of its language that are easy to lose sight of."""

import ast
import builtins
import pathlib
import unittest

PACKAGE = pathlib.Path(__file__).resolve().parent.parent / "towerflags"

ALLOWED_BUILTINS = (
    "len range enumerate zip min max sum abs sorted reversed int str bool list tuple dict set frozenset "
    "isinstance ord repr any all divmod"
).split()


def package_files():
    return [path for path in sorted(PACKAGE.rglob("*")) if "__pycache__" not in path.parts]


def calls_of(node):
    """The names that are called within a part of a file."""
    calls = [part for part in ast.walk(node) if isinstance(part, ast.Call)]
    return {call.func.id for call in calls if isinstance(call.func, ast.Name)}


def trees():
    return [(path.name, ast.parse(path.read_text(encoding="utf-8"))) for path in package_files()]


class Language(unittest.TestCase):
    def test_package_holds_its_files_alone(self):
        self.assertEqual([path.name for path in package_files()], ["__init__.py", "turns.py"])

    def test_signs_and_sizes(self):
        for path in package_files():
            text = path.read_bytes().decode("ascii")
            lines = text.split("\n")
            self.assertTrue(all(sign == "\n" or " " <= sign <= "~" for sign in text), path.name)
            self.assertLessEqual(len(lines), 400, path.name)
            self.assertLessEqual(max(len(line) for line in lines), 120, path.name)

    def test_functions_are_short(self):
        for name, tree in trees():
            for node in ast.walk(tree):
                if isinstance(node, ast.FunctionDef):
                    self.assertLessEqual(node.end_lineno - node.lineno + 1, 40, (name, node.name))

    def test_no_function_calls_itself_in_whatever_many_steps(self):
        for name, tree in trees():
            called = {node.name: calls_of(node) for node in ast.walk(tree) if isinstance(node, ast.FunctionDef)}
            for start in called:
                reached = set()
                ahead = sorted(called[start])
                while ahead:
                    function = ahead.pop()
                    if function in called and function not in reached:
                        reached.add(function)
                        ahead.extend(called[function])
                self.assertNotIn(start, reached, name)

    def test_nothing_is_imported(self):
        for name, tree in trees():
            for node in ast.walk(tree):
                self.assertNotIsInstance(node, (ast.Import, ast.ImportFrom), name)

    def test_no_other_name_of_pythons_own_is_used(self):
        for name, tree in trees():
            for node in ast.walk(tree):
                if isinstance(node, ast.Name) and hasattr(builtins, node.id):
                    self.assertIn(node.id, ALLOWED_BUILTINS, (name, node.lineno))

    def test_no_name_of_pythons_own_is_given_another_meaning(self):
        for name, tree in trees():
            for node in ast.walk(tree):
                if isinstance(node, ast.arg):
                    self.assertFalse(hasattr(builtins, node.arg), (name, node.lineno))
                if isinstance(node, ast.Name) and isinstance(node.ctx, ast.Store):
                    self.assertFalse(hasattr(builtins, node.id), (name, node.lineno))

    def test_no_power_with_an_exponent_that_is_worked_out(self):
        for name, tree in trees():
            for node in ast.walk(tree):
                if isinstance(node, ast.BinOp) and isinstance(node.op, ast.Pow):
                    self.assertIsInstance(node.right, ast.Constant, (name, node.lineno))


if __name__ == "__main__":
    unittest.main()
