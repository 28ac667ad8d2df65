"""The interface of cost and find: their arguments, their answers, and what they leave alone."""

import ast
import contextlib
import inspect
import io
import pathlib
import unittest
from unittest import mock

import movedby.desk
from movedby.desk import cost, find
from pictures import shifts, speckled

# Taken and refused calls of one picture pair of 6 by 5.
CALLS = ((cost, (6, 5, 2, -2, 1)), (find, (6, 5, 2)), (cost, (6, 5, 0, 0, 0)), (find, (6, 5, 0)),
         (cost, (6, 5, 1, 1, 1)), (find, (6, 5, 1)), (cost, (6, 5, 9, 0, 0)), (find, (6, 5, 9)),
         (cost, (6, 5, 1, 2, 0)), (find, (6, 5, 3)), (cost, (6, 5, 3, 0, 0)))
TAKEN_LENGTH = {cost: 2, find: 4}


def refuse_change(*given, **named):
    raise AssertionError("a picture was changed")


class Untouchable(list):
    """A picture that doesn't stand for being changed, not even for a while."""

    append = extend = insert = pop = remove = clear = sort = reverse = refuse_change
    __setitem__ = __delitem__ = __iadd__ = __imul__ = refuse_change


class Calls(unittest.TestCase):

    def setUp(self):
        self.a, self.b = speckled(6, 5, 21), speckled(6, 5, 22)

    def test_arguments(self):
        self.assertEqual(list(inspect.signature(cost).parameters), ["w", "h", "r", "dx", "dy", "a", "b"])
        self.assertEqual(list(inspect.signature(find).parameters), ["w", "h", "r", "a", "b"])
        self.assertEqual(cost(w=1, h=1, r=0, dx=0, dy=0, a=[9], b=[4]), [0, 5])
        self.assertEqual(find(w=1, h=1, r=0, a=[9], b=[4]), [0, 0, 0, 5])

    def test_answer_is_a_list_of_whole_numbers(self):
        for call, arguments in CALLS:
            answer = call(*arguments, self.a, self.b)
            with self.subTest(call=call.__name__, arguments=arguments):
                self.assertIs(type(answer), list)
                self.assertEqual([type(number) for number in answer], [int] * len(answer))
                self.assertEqual(len(answer), TAKEN_LENGTH[call] if answer[0] == 0 else 1)

    def test_pictures_are_after_the_call_what_they_were(self):
        for call, arguments in CALLS:
            a, b = list(self.a), list(self.b)
            call(*arguments, a, b)
            with self.subTest(call=call.__name__, arguments=arguments):
                self.assertEqual(a, self.a)
                self.assertEqual(b, self.b)

    def test_pictures_are_not_changed_for_a_while(self):
        for call, arguments in CALLS:
            with self.subTest(call=call.__name__, arguments=arguments):
                self.assertEqual(call(*arguments, Untouchable(self.a), Untouchable(self.b)),
                                 call(*arguments, self.a, self.b))

    def test_one_list_as_both_pictures(self):
        for dx, dy in shifts(2):
            with self.subTest(dx=dx, dy=dy):
                self.assertEqual(cost(6, 5, 2, dx, dy, self.a, self.a),
                                 cost(6, 5, 2, dx, dy, self.a, list(self.a)))
        self.assertEqual(find(6, 5, 2, self.a, self.a), [0, 0, 0, 0])

    def test_a_second_call_answers_the_same(self):
        first = [call(*arguments, self.a, self.b) for call, arguments in CALLS]
        second = [call(*arguments, self.a, self.b) for call, arguments in reversed(CALLS)]
        self.assertEqual(first, second[::-1])

    def test_nothing_is_kept_of_the_pictures(self):
        a, b = [0], [0]
        self.assertEqual(cost(1, 1, 0, 0, 0, a, b), [0, 0])
        a[0] = 30
        self.assertEqual(cost(1, 1, 0, 0, 0, a, b), [0, 30])
        b[0] = 255
        self.assertEqual(cost(1, 1, 0, 0, 0, a, b), [0, 225])
        self.assertEqual(find(1, 1, 0, a, b), [0, 0, 0, 225])
        a[0] = 250
        self.assertEqual(find(1, 1, 0, a, b), [0, 0, 0, 5])

    def test_nothing_is_kept_of_the_answer(self):
        for call, arguments in CALLS:
            answer = call(*arguments, self.a, self.b)
            kept = list(answer)
            answer.append(1)
            answer[0] = 77
            with self.subTest(call=call.__name__, arguments=arguments):
                self.assertEqual(call(*arguments, self.a, self.b), kept)

    def test_it_prints_and_reads_nothing(self):
        printed, complained = io.StringIO(), io.StringIO()
        refused = mock.Mock(side_effect=AssertionError("it reads"))
        with contextlib.redirect_stdout(printed), contextlib.redirect_stderr(complained), \
                mock.patch("builtins.open", refused), mock.patch("builtins.input", refused), \
                mock.patch("sys.stdin", None):
            for call, arguments in CALLS:
                call(*arguments, self.a, self.b)
        self.assertEqual((printed.getvalue(), complained.getvalue()), ("", ""))

    def test_it_imports_nothing(self):
        for file in sorted(pathlib.Path(movedby.desk.__file__).parent.glob("*.py")):
            nodes = ast.walk(ast.parse(file.read_text()))
            imports = [node.lineno for node in nodes if isinstance(node, (ast.Import, ast.ImportFrom))]
            with self.subTest(file=file.name):
                self.assertEqual(imports, [])


if __name__ == "__main__":
    unittest.main()
