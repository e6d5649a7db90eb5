import unittest

from dayround.desk import week
from bounds import FIRST, HIGHEST_LONG, LAST, LOWEST_LONG, NONE


class OrdinaryDays(unittest.TestCase):
    def test_after_1970(self):
        self.assertEqual(week(1), [0, 1970, 1, 5])
        self.assertEqual(week(20773), [0, 2026, 47, 1])
        self.assertEqual(week(11016), [0, 2000, 9, 2])
        self.assertEqual(week(2932896), [0, 9999, 52, 5])

    def test_before_1970(self):
        self.assertEqual(week(-1), [0, 1970, 1, 3])
        self.assertEqual(week(-141427), [0, 1582, 41, 5])
        self.assertEqual(week(-719162), [0, 1, 1, 1])

    def test_the_year_0_and_below(self):
        self.assertEqual(week(-719163), [0, 0, 52, 7])
        self.assertEqual(week(-719526), [0, 0, 1, 1])
        self.assertEqual(week(-719527), [0, -1, 52, 7])
        self.assertEqual(week(-719890), [0, -1, 1, 1])
        self.assertEqual(week(-719891), [0, -2, 53, 7])
        self.assertEqual(week(20773 - 7 * 146097), [0, -774, 47, 1])


class Edges(unittest.TestCase):
    def test_day_0_is_a_4(self):
        self.assertEqual(week(0), [0, 1970, 1, 4])

    def test_a_week_begins_with_a_1_and_ends_with_a_7(self):
        for number in range(-3, 4):
            with self.subTest(number=number):
                self.assertEqual(week(number), [0, 1970, 1, number + 4])
        self.assertEqual(week(-4), [0, 1969, 52, 7])
        self.assertEqual(week(4), [0, 1970, 2, 1])

    def test_the_last_days_of_a_year_in_week_1_of_the_next(self):
        # 29 to 31 December 2025; 2026 begins with a 4.
        self.assertEqual(week(20450), [0, 2025, 52, 7])
        self.assertEqual(week(20451), [0, 2026, 1, 1])
        self.assertEqual(week(20453), [0, 2026, 1, 3])

    def test_the_first_days_of_a_year_in_the_last_week_of_the_one_before(self):
        # 1 to 4 January 2027, which begins with a 5; 1 to 3 January 2022, which begins with a 6.
        self.assertEqual(week(20819), [0, 2026, 53, 5])
        self.assertEqual(week(20821), [0, 2026, 53, 7])
        self.assertEqual(week(20822), [0, 2027, 1, 1])
        self.assertEqual(week(18993), [0, 2021, 52, 6])
        self.assertEqual(week(18994), [0, 2021, 52, 7])
        self.assertEqual(week(18995), [0, 2022, 1, 1])

    def test_first_and_the_days_after_it(self):
        # The year -999999 begins with a 1: no day from FIRST on has its week in the year before.
        for number in range(7):
            with self.subTest(number=number):
                self.assertEqual(week(FIRST + number), [0, -999999, 1, number + 1])
        self.assertEqual(week(FIRST + 7), [0, -999999, 2, 1])

    def test_last_and_the_days_before_it(self):
        # The year 999999 ends with a 5: no day up to LAST has its week in the year after.
        for number in range(5):
            with self.subTest(number=number):
                self.assertEqual(week(LAST - number), [0, 999999, 52, 5 - number])
        self.assertEqual(week(LAST - 5), [0, 999999, 51, 7])


class WrongInputs(unittest.TestCase):
    def test_just_outside_first_and_last(self):
        self.assertEqual(week(FIRST - 1), NONE)
        self.assertEqual(week(LAST + 1), NONE)

    def test_the_rest_of_the_last_week_is_no_day(self):
        self.assertEqual(week(LAST + 2), NONE)
        self.assertEqual(week(LAST + 3), NONE)

    def test_far_outside(self):
        for number in (-2147483648, 2147483647, -(2 ** 40), 2 ** 40, FIRST - 146097, LAST + 146097):
            with self.subTest(number=number):
                self.assertEqual(week(number), NONE)

    def test_the_ends_of_what_may_be_handed_in(self):
        self.assertEqual(week(LOWEST_LONG), NONE)
        self.assertEqual(week(HIGHEST_LONG), NONE)


if __name__ == "__main__":
    unittest.main()
