"""The package's files: what lies there, and the plainest rules on what stands in them."""

import ast
import pathlib
import unittest

PACKAGE = pathlib.Path(__file__).resolve().parent.parent / "crewair"
FILES = sorted(PACKAGE.glob("*.py"))


class Files(unittest.TestCase):
    def test_only_the_package_lies_there(self):
        names = {path.name for path in PACKAGE.iterdir()} - {"__pycache__"}
        self.assertEqual(names, {"__init__.py", "valves.py"})

    def test_plain_signs_and_sizes(self):
        for path in FILES:
            with self.subTest(path=path.name):
                text = path.read_bytes().decode("ascii")
                self.assertTrue(all(sign == "\n" or " " <= sign <= "~" for sign in text))
                rows = text.split("\n")
                self.assertLessEqual(len(rows), 400)
                self.assertLessEqual(max(len(row) for row in rows), 120)

    def test_small_functions(self):
        for path in FILES:
            for node in ast.walk(ast.parse(path.read_text(encoding="ascii"))):
                if isinstance(node, ast.FunctionDef):
                    with self.subTest(path=path.name, name=node.name):
                        self.assertLessEqual(node.end_lineno - node.lineno + 1, 40)

    def test_nothing_is_imported(self):
        for path in FILES:
            nodes = ast.walk(ast.parse(path.read_text(encoding="ascii")))
            imports = [node for node in nodes if isinstance(node, (ast.Import, ast.ImportFrom))]
            self.assertEqual(imports, [], path.name)


if __name__ == "__main__":
    unittest.main()
