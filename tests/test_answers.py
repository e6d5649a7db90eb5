"""What holds of the answers of every call."""

import contextlib
import copy
import inspect
import io
import unittest

from dayround.desk import again, between, civil, day, from_week, move, read, week, work, write
from bounds import FIRST, HIGHEST, HIGHEST_LONG, LAST, LOWEST, LOWEST_LONG

CALLS = (
    (day, (1970, 1, 1)), (day, (-1, 12, 31)), (day, (-999999, 1, 1)), (day, (999999, 12, 31)),
    (day, (1900, 2, 29)), (day, (1970, 13, 1)), (day, (HIGHEST, LOWEST, 0)),
    (civil, (0,)), (civil, (-719529,)), (civil, (FIRST,)), (civil, (LAST,)),
    (civil, (FIRST - 1,)), (civil, (LAST + 1,)), (civil, (HIGHEST_LONG,)),
    (week, (0,)), (week, (-719891,)), (week, (20819,)), (week, (FIRST,)), (week, (LAST,)),
    (week, (FIRST - 1,)), (week, (LAST + 1,)), (week, (LOWEST_LONG,)),
    (from_week, (1970, 1, 4)), (from_week, (-2, 53, 7)), (from_week, (-999999, 1, 1)), (from_week, (999999, 52, 5)),
    (from_week, (999999, 52, 6)), (from_week, (2025, 53, 1)), (from_week, (2026, 1, 8)),
    (from_week, (HIGHEST, 1, LOWEST)),
    (move, (0, 1, 0)), (move, (20484, 1, 0)), (move, (20484, 1, 1)), (move, (20484, 1, 2)), (move, (-719528, -1, 1)),
    (move, (FIRST, 23999987, 2)), (move, (FIRST, -1, 0)), (move, (LAST, 24000000, 1)), (move, (LAST + 1, 0, 0)),
    (move, (0, 24000001, 0)), (move, (FIRST - 1, 0, 3)), (move, (LOWEST_LONG, HIGHEST_LONG, -1)),
    (between, (0, 0)), (between, (20484, 20512)), (between, (-719529, 20773)), (between, (FIRST, LAST)),
    (between, (1, 0)), (between, (LAST, FIRST)), (between, (LAST + 1, LAST)), (between, (FIRST - 1, LAST)),
    (between, (LOWEST_LONG, HIGHEST_LONG)), (between, (HIGHEST_LONG, LOWEST_LONG)),
    (work, (20773, 0, 0, [])), (work, (20773, 5, 96, [20774, 20778])), (work, (-719528, 100000, 126, [])),
    (work, (FIRST, 0, 0, list(range(1024)))), (work, (LAST, 0, 96, [FIRST])), (work, (LAST, 1, 96, [])),
    (work, (FIRST - 1, 0, 0, [])), (work, (0, 0, 127, [])), (work, (0, -1, 0, [])), (work, (0, 0, 0, [1, 1])),
    (work, (HIGHEST_LONG, LOWEST_LONG, HIGHEST, [HIGHEST_LONG, LOWEST_LONG])),
    (write, (0, 20773, 32)), (write, (1, 20773, 5)), (write, (2, -719529, 0)), (write, (0, FIRST, 32)),
    (write, (1, LAST, 32)), (write, (2, LAST + 1, 32)), (write, (3, 0, 32)), (write, (0, 0, 33)),
    (write, (LOWEST, HIGHEST_LONG, HIGHEST)),
    (read, ([50, 48, 50, 54, 45, 49, 49, 45, 49, 54],)), (read, ([50, 48, 50, 54, 45, 87, 52, 55, 45, 49],)),
    (read, ([45, 48, 48, 48, 49, 45, 51, 54, 53],)), (read, ([],)), (read, ([50, 48, 50, 54, 45, 51, 54, 54],)),
    (read, ([0] * 32,)), (read, ([255] * 32,)), (read, ([48] * 33,)),
    (again, (20773, 0, 1, 0, 1, 0, 0, 0, 1, 20780, 20773, 4096)), (again, (20773, 1, 2, 0, 1, 0, 0, 5, 1, 40773, 0, 9)),
    (again, (20484, 2, 1, 0, 1, 5, 0, 0, 1, 30000, 20600, 9)), (again, (0, 3, 2, -1, 5, 0, 2064, 0, 1, 20000, 0, 4096)),
    (again, (FIRST, 0, 1000, 0, 1, 0, 0, 0, 1, FIRST, FIRST, 1)),
    (again, (LAST, 3, 1, 0, 1, 0, 0, 0, 1, LAST, LAST, 1)),
    (again, (0, 0, 1, 0, 1, 0, 0, 0, 1, -1, 0, 4096)), (again, (0, 0, 1, 0, 1, 0, 0, 0, 1, 20000, 0, 0)),
    (again, (0, 4, 1, 0, 1, 0, 0, 0, 1, 10, 0, 9)), (again, (0, 0, 1, 0, 1, 0, 0, 0, 2, 10, 0, 9)),
    (again, (
        LOWEST_LONG, LOWEST, HIGHEST, LOWEST, HIGHEST, LOWEST, 65535, 255, 255, HIGHEST_LONG, LOWEST_LONG, HIGHEST,
    )),
)
LENGTHS = {day: 2, civil: 4, week: 4, from_week: 2, move: 2, between: 4, work: 2, read: 2}
REFUSALS = {
    day: (-1,), civil: (-1,), week: (-1,), from_week: (-1,), move: (-1, -2), between: (-1, -2), work: (-1, -2),
    write: (-1, -2), read: (-1, -2), again: (-2,),
}


def refuse(*arguments, **named):
    raise AssertionError("what is handed in was to be changed")


class FixedList(list):
    append = clear = extend = insert = pop = remove = reverse = sort = refuse
    __setitem__ = __delitem__ = __iadd__ = __imul__ = refuse


def told_length(function, arguments, answer):
    if function is write:
        return 1 + min(answer[0], arguments[2])
    if function is again:
        return 1 + answer[0]
    return LENGTHS[function]


class TheAnswers(unittest.TestCase):
    def test_lists_of_whole_numbers(self):
        for function, arguments in CALLS:
            with self.subTest(function=function.__name__, arguments=arguments):
                answer = function(*arguments)
                self.assertIs(type(answer), list)
                self.assertTrue(all(type(number) is int for number in answer))
                if answer[0] < 0:
                    self.assertEqual(len(answer), 1)
                    self.assertIn(answer[0], REFUSALS[function])
                else:
                    self.assertEqual(len(answer), told_length(function, arguments, answer))
                    self.assertTrue(answer[0] == 0 or function not in LENGTHS)

    def test_the_same_call_twice_answers_the_same(self):
        for function, arguments in CALLS:
            with self.subTest(function=function.__name__, arguments=arguments):
                self.assertEqual(function(*arguments), function(*arguments))

    def test_other_calls_between_change_nothing(self):
        before = [function(*arguments) for function, arguments in CALLS]
        after = [function(*arguments) for function, arguments in reversed(CALLS)]
        self.assertEqual(before, after[::-1])

    def test_an_answer_changed_by_the_caller_is_not_given_again(self):
        for function, arguments in CALLS:
            with self.subTest(function=function.__name__, arguments=arguments):
                answer = function(*arguments)
                kept = list(answer)
                answer.append(7)
                answer[0] = 7
                self.assertEqual(function(*arguments), kept)

    def test_what_is_handed_in_is_as_it_was(self):
        for function, arguments in CALLS:
            with self.subTest(function=function.__name__, arguments=arguments):
                kept = copy.deepcopy(arguments)
                function(*arguments)
                self.assertEqual(arguments, kept)

    def test_what_is_handed_in_is_not_changed_for_a_while_either(self):
        for function, arguments in CALLS:
            with self.subTest(function=function.__name__, arguments=arguments):
                fixed = [FixedList(argument) if type(argument) is list else argument for argument in arguments]
                self.assertEqual(function(*fixed), function(*arguments))

    def test_nothing_is_printed(self):
        printed = io.StringIO()
        with contextlib.redirect_stdout(printed), contextlib.redirect_stderr(printed):
            for function, arguments in CALLS:
                function(*arguments)
        self.assertEqual(printed.getvalue(), "")

    def test_arguments_go_by_the_names_of_the_interface(self):
        self.assertEqual(day(y=2000, m=2, d=29), [0, 11016])
        self.assertEqual(civil(day=11016), [0, 2000, 2, 29])
        self.assertEqual(week(day=11016), [0, 2000, 9, 2])
        self.assertEqual(from_week(y=2000, w=9, wd=2), [0, 11016])
        self.assertEqual(move(day=20484, months=1, rule=1), [0, 20513])
        self.assertEqual(between(a=20484, b=20513), [0, 0, 1, 1])
        self.assertEqual(work(day=20773, n=5, rest=96, holidays=[20775]), [0, 20781])
        self.assertEqual(write(form=2, day=20773, most=4), [8, 50, 48, 50, 54])
        self.assertEqual(read(text=[50, 48, 50, 54, 45, 51, 50, 48]), [0, 20773])
        self.assertEqual(
            again(start=20773, unit=1, step=2, nth=0, wday=1, count=4, months=0, wdays=3, flags=1, until=20900,
                  the_from=20774, most=2),
            [2, 20774, 20787],
        )

    def test_arguments_stand_in_the_order_of_the_interface(self):
        for function, names in (
            (day, "y m d"), (civil, "day"), (week, "day"), (from_week, "y w wd"), (move, "day months rule"),
            (between, "a b"), (work, "day n rest holidays"), (write, "form day most"), (read, "text"),
            (again, "start unit step nth wday count months wdays flags until the_from most"),
        ):
            with self.subTest(function=function.__name__):
                self.assertEqual(list(inspect.signature(function).parameters), names.split())


if __name__ == "__main__":
    unittest.main()
