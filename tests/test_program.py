"""What the document says of the whole program: its five functions, their refusals, and that it does nothing else."""

import ast
import builtins
import contextlib
import inspect
import io
import unittest
from pathlib import Path

from planerepeats import patterns

TOP = Path(__file__).resolve().parent.parent
LEAST = -2147483648
GREATEST = 2147483647

ARGUMENTS = {
    "cell": ["n", "p"],
    "kind": ["n", "p"],
    "alike": ["n", "p"],
    "least": ["n", "what", "p"],
    "count": ["n", "colours", "what", "most"],
}

# Each function's name, a call, and what it answers.
ANSWERS = (
    ("cell", (2, [0, 1, 1, 0]), [0, 2, 1, 1, 2]),
    ("kind", (2, [0, 1, 1, 0]), [10, 1, 1, 1, 1, 2, 2, 2, 2]),
    ("alike", (2, [0, 1, 1, 0]), [2, 0, 1, 1, 0]),
    ("least", (2, 2, [1, 0, 0, 1]), [2, 0, 1, 1, 0]),
    ("count", (2, 2, 0, 1), [1, 55]),
    ("count", (3, 2, 0, 1), [-1]),
    ("cell", (65, []), [-2]),
    ("kind", (0, []), [-2]),
    ("alike", (-1, []), [-2]),
    ("least", (2, 3, [1, 0, 0, 1]), [-2]),
    ("count", (9, 2, 0, 1), [-2]),
)


def ask(name, arguments):
    """What the function of this name answers; the lists among its arguments are handed in as copies."""
    copies = [list(argument) if isinstance(argument, list) else argument for argument in arguments]
    return getattr(patterns, name)(*copies)


class Functions(unittest.TestCase):
    def test_names_and_arguments(self):
        for name, arguments in ARGUMENTS.items():
            function = getattr(patterns, name)
            self.assertEqual(function.__module__, "planerepeats.patterns")
            parameters = inspect.signature(function).parameters.values()
            self.assertEqual([parameter.name for parameter in parameters], arguments)
            for parameter in parameters:
                self.assertIs(parameter.default, inspect.Parameter.empty)

    def test_one_answer_of_each_in_any_order(self):
        for order in (ANSWERS, ANSWERS[::-1], ANSWERS[::3] + ANSWERS[1::3] + ANSWERS[2::3], ANSWERS + ANSWERS):
            for name, arguments, wanted in order:
                self.assertEqual(ask(name, arguments), wanted)

    def test_nothing_is_printed(self):
        printed = io.StringIO()
        with contextlib.redirect_stdout(printed), contextlib.redirect_stderr(printed):
            for name, arguments, wanted in ANSWERS:
                ask(name, arguments)
        self.assertEqual(printed.getvalue(), "")


class Refusals(unittest.TestCase):
    def check_refused(self, name, *arguments):
        with self.subTest(name=name, arguments=arguments):
            self.assertEqual(ask(name, arguments), [-2])

    def test_n_beside_its_range_and_at_the_ends(self):
        for n in (LEAST, -1, 0, 65, GREATEST):
            for name in ("cell", "kind", "alike"):
                self.check_refused(name, n, [])
            for what in (0, 1, 2):
                self.check_refused("least", n, what, [])
                self.check_refused("count", n, 10, what, GREATEST)

    def test_what_beside_its_range_and_at_the_ends(self):
        for what in (LEAST, -1, 3, GREATEST):
            self.check_refused("least", 1, what, [0])
            self.check_refused("least", 6, what, list(range(36)))
            self.check_refused("count", 1, 1, what, GREATEST)
            self.check_refused("count", 8, 10, what, GREATEST)

    def test_colours_and_most_beside_their_range_and_at_the_ends(self):
        for colours in (LEAST, -1, 0, 11, GREATEST):
            self.check_refused("count", 1, colours, 0, GREATEST)
        for most in (LEAST, -1):
            self.check_refused("count", 1, 1, 0, most)

    def test_not_refused_at_the_ends_within(self):
        for n in (1, 6):
            p = [0] * (n * n)
            for name in ("cell", "kind", "alike"):
                self.assertNotEqual(ask(name, (n, p)), [-2])
            for what in (0, 2):
                self.assertNotEqual(ask("least", (n, what, p)), [-2])
        for n in (1, 8):
            for colours in (1, 10):
                for what in (0, 2):
                    self.assertNotEqual(ask("count", (n, colours, what, GREATEST)), [-2])
                    self.assertEqual(ask("count", (n, colours, what, 0)), [-1])


class Files(unittest.TestCase):
    # What the package's own files may use of Python's names: none that prints, reads or imports.
    allowed = set(
        "len range enumerate zip min max sum abs sorted reversed int str bool list tuple dict set"
        " frozenset isinstance ord repr any all divmod".split()
    )

    def test_nothing_is_printed_read_or_imported(self):
        for file in sorted((TOP / "planerepeats").rglob("*.py")):
            with self.subTest(file=file.name):
                tree = ast.parse(file.read_text(encoding="ascii"))
                for node in ast.walk(tree):
                    self.assertNotIsInstance(node, ast.Import)
                    if isinstance(node, ast.ImportFrom):
                        self.assertEqual(node.module.split(".")[0], "planerepeats")
                names = {node.id for node in ast.walk(tree) if isinstance(node, ast.Name)}
                own = {node.name for node in ast.walk(tree) if isinstance(node, ast.FunctionDef)}
                self.assertLessEqual({name for name in names - own if hasattr(builtins, name)}, self.allowed)

    def test_readme_speaks_of_all_and_its_examples_hold(self):
        text = (TOP / "README.md").read_text(encoding="utf-8")
        code = text.split("```python\n")[1].split("```")[0]
        lines = code.splitlines()
        shown = []
        for node in ast.parse(code).body:
            if isinstance(node, ast.Expr):
                shown.append(node.value.func.id)
                arguments = [ast.literal_eval(argument) for argument in node.value.args]
                answer = ast.literal_eval(lines[node.end_lineno - 1].split("#")[1].strip())
                self.assertEqual(ask(node.value.func.id, arguments), answer)
        self.assertEqual(shown, list(ARGUMENTS))
        for name, arguments in ARGUMENTS.items():
            self.assertIn("`" + name + "(" + ", ".join(arguments) + ")`", text)


if __name__ == "__main__":
    unittest.main()
