"""The interface of cost: its arguments, its answer, and what it leaves alone."""

import ast
import contextlib
import inspect
import io
import pathlib
import unittest
from unittest import mock

import movedby.desk
from movedby.desk import cost
from pictures import shifts, speckled

# Taken and refused calls of one picture pair of 6 by 5.
ARGUMENTS = ((6, 5, 2, -2, 1), (6, 5, 0, 0, 0), (6, 5, 1, 1, 1), (6, 5, 9, 0, 0), (6, 5, 1, 2, 0), (6, 5, 3, 0, 0))


def refuse_change(*given, **named):
    raise AssertionError("a picture was changed")


class Untouchable(list):
    """A picture that doesn't stand for being changed, not even for a while."""

    append = extend = insert = pop = remove = clear = sort = reverse = refuse_change
    __setitem__ = __delitem__ = __iadd__ = __imul__ = refuse_change


class Calls(unittest.TestCase):

    def setUp(self):
        self.a, self.b = speckled(6, 5, 21), speckled(6, 5, 22)

    def test_arguments(self):
        self.assertEqual(list(inspect.signature(cost).parameters), ["w", "h", "r", "dx", "dy", "a", "b"])
        self.assertEqual(cost(w=1, h=1, r=0, dx=0, dy=0, a=[9], b=[4]), [0, 5])

    def test_answer_is_a_list_of_whole_numbers(self):
        for arguments in ARGUMENTS:
            answer = cost(*arguments, self.a, self.b)
            with self.subTest(arguments=arguments):
                self.assertIs(type(answer), list)
                self.assertEqual([type(number) for number in answer], [int] * len(answer))
                self.assertEqual(len(answer), 2 if answer[0] == 0 else 1)

    def test_pictures_are_after_the_call_what_they_were(self):
        for arguments in ARGUMENTS:
            a, b = list(self.a), list(self.b)
            cost(*arguments, a, b)
            with self.subTest(arguments=arguments):
                self.assertEqual(a, self.a)
                self.assertEqual(b, self.b)

    def test_pictures_are_not_changed_for_a_while(self):
        for arguments in ARGUMENTS:
            with self.subTest(arguments=arguments):
                self.assertEqual(cost(*arguments, Untouchable(self.a), Untouchable(self.b)),
                                 cost(*arguments, self.a, self.b))

    def test_one_list_as_both_pictures(self):
        for dx, dy in shifts(2):
            with self.subTest(dx=dx, dy=dy):
                self.assertEqual(cost(6, 5, 2, dx, dy, self.a, self.a),
                                 cost(6, 5, 2, dx, dy, self.a, list(self.a)))

    def test_a_second_call_answers_the_same(self):
        first = [cost(*arguments, self.a, self.b) for arguments in ARGUMENTS]
        second = [cost(*arguments, self.a, self.b) for arguments in reversed(ARGUMENTS)]
        self.assertEqual(first, second[::-1])

    def test_nothing_is_kept_of_the_pictures(self):
        a, b = [0], [0]
        self.assertEqual(cost(1, 1, 0, 0, 0, a, b), [0, 0])
        a[0] = 30
        self.assertEqual(cost(1, 1, 0, 0, 0, a, b), [0, 30])
        b[0] = 255
        self.assertEqual(cost(1, 1, 0, 0, 0, a, b), [0, 225])

    def test_nothing_is_kept_of_the_answer(self):
        for arguments in ARGUMENTS:
            answer = cost(*arguments, self.a, self.b)
            kept = list(answer)
            answer.append(1)
            answer[0] = 77
            with self.subTest(arguments=arguments):
                self.assertEqual(cost(*arguments, self.a, self.b), kept)

    def test_it_prints_and_reads_nothing(self):
        printed, complained = io.StringIO(), io.StringIO()
        refused = mock.Mock(side_effect=AssertionError("it reads"))
        with contextlib.redirect_stdout(printed), contextlib.redirect_stderr(complained), \
                mock.patch("builtins.open", refused), mock.patch("builtins.input", refused), \
                mock.patch("sys.stdin", None):
            for arguments in ARGUMENTS:
                cost(*arguments, self.a, self.b)
        self.assertEqual((printed.getvalue(), complained.getvalue()), ("", ""))

    def test_it_imports_nothing(self):
        for file in sorted(pathlib.Path(movedby.desk.__file__).parent.glob("*.py")):
            nodes = ast.walk(ast.parse(file.read_text()))
            imports = [node.lineno for node in nodes if isinstance(node, (ast.Import, ast.ImportFrom))]
            with self.subTest(file=file.name):
                self.assertEqual(imports, [])


if __name__ == "__main__":
    unittest.main()
