import unittest

from dayround.desk import from_week
from bounds import FIRST, HIGHEST, LAST, LOWEST, NONE

# Years that begin with a 4, and long ones that begin with a 3; years before the year 0 among them.
YEARS_OF_53 = (1970, 1976, 2004, 2009, 2015, 2020, 2026, 2032, 4, -2, -8, -380, -774, -999980)
# Years that begin with each of the seven days; long ones among them.
YEARS_OF_52 = (2018, 2019, 2014, 2010, 2011, 2023, 2024, 2008, 2016, 2000, 2012, 0, -1, -999999, 999999)


class OrdinaryDays(unittest.TestCase):
    def test_after_1970(self):
        self.assertEqual(from_week(1970, 1, 5), [0, 1])
        self.assertEqual(from_week(2026, 47, 1), [0, 20773])
        self.assertEqual(from_week(2000, 9, 2), [0, 11016])
        self.assertEqual(from_week(9999, 52, 5), [0, 2932896])

    def test_before_1970(self):
        self.assertEqual(from_week(1970, 1, 3), [0, -1])
        self.assertEqual(from_week(1582, 41, 5), [0, -141427])
        self.assertEqual(from_week(1, 1, 1), [0, -719162])

    def test_the_year_0_and_below(self):
        self.assertEqual(from_week(0, 52, 7), [0, -719163])
        self.assertEqual(from_week(0, 1, 1), [0, -719526])
        self.assertEqual(from_week(-1, 52, 7), [0, -719527])
        self.assertEqual(from_week(-1, 1, 1), [0, -719890])
        self.assertEqual(from_week(-2, 53, 7), [0, -719891])
        self.assertEqual(from_week(-774, 47, 1), [0, 20773 - 7 * 146097])


class Edges(unittest.TestCase):
    def test_day_0_is_a_4(self):
        self.assertEqual(from_week(1970, 1, 4), [0, 0])

    def test_the_days_of_a_week_follow_one_another(self):
        for weekday in range(1, 8):
            with self.subTest(weekday=weekday):
                self.assertEqual(from_week(1970, 1, weekday), [0, weekday - 4])
                self.assertEqual(from_week(1970, 2, weekday), [0, weekday + 3])

    def test_days_that_lie_in_the_year_before_or_after(self):
        # 29 December 2025 to 1 January 2026, then 31 December 2026 to 4 January 2027.
        self.assertEqual(from_week(2025, 52, 7), [0, 20450])
        self.assertEqual(from_week(2026, 1, 1), [0, 20451])
        self.assertEqual(from_week(2026, 1, 4), [0, 20454])
        self.assertEqual(from_week(2026, 53, 4), [0, 20818])
        self.assertEqual(from_week(2026, 53, 5), [0, 20819])
        self.assertEqual(from_week(2026, 53, 7), [0, 20821])
        self.assertEqual(from_week(2027, 1, 1), [0, 20822])

    def test_years_of_53_weeks(self):
        for year in YEARS_OF_53:
            with self.subTest(year=year):
                last = from_week(year, 53, 7)
                self.assertEqual(last[0], 0)
                self.assertEqual(from_week(year, 53, 1), [0, last[1] - 6])
                self.assertEqual(from_week(year, 1, 1), [0, last[1] - 53 * 7 + 1])
                self.assertEqual(from_week(year + 1, 1, 1), [0, last[1] + 1])
                self.assertEqual(from_week(year, 54, 1), NONE)

    def test_years_of_52_weeks(self):
        for year in YEARS_OF_52:
            with self.subTest(year=year):
                last = from_week(year, 52, 5)
                self.assertEqual(last[0], 0)
                self.assertEqual(from_week(year, 1, 1), [0, last[1] - 52 * 7 + 3])
                for weekday in range(1, 8):
                    self.assertEqual(from_week(year, 53, weekday), NONE)
                    self.assertEqual(from_week(year, 54, weekday), NONE)

    def test_first_and_the_days_after_it(self):
        # The year -999999 begins with a 1: each day of its week 1 is from FIRST on.
        for weekday in range(1, 8):
            with self.subTest(weekday=weekday):
                self.assertEqual(from_week(-999999, 1, weekday), [0, FIRST + weekday - 1])
        self.assertEqual(from_week(-999999, 52, 7), [0, FIRST + 363])
        self.assertEqual(from_week(-999998, 1, 1), [0, FIRST + 364])

    def test_last_and_the_days_after_it(self):
        # The year 999999 ends with a 5: two days of its week 52 come after LAST.
        for weekday in range(1, 6):
            with self.subTest(weekday=weekday):
                self.assertEqual(from_week(999999, 52, weekday), [0, LAST - 5 + weekday])
        self.assertEqual(from_week(999999, 52, 6), NONE)
        self.assertEqual(from_week(999999, 52, 7), NONE)
        self.assertEqual(from_week(999999, 51, 7), [0, LAST - 5])


class WrongInputs(unittest.TestCase):
    def test_years(self):
        for year in (-1000000, 1000000, -1000001, 1000001, -2000000, 2000000, LOWEST, HIGHEST):
            for number, weekday in ((1, 1), (1, 7), (26, 4), (52, 1), (52, 7), (53, 7)):
                with self.subTest(year=year, week=number, weekday=weekday):
                    self.assertEqual(from_week(year, number, weekday), NONE)

    def test_weeks(self):
        for number in (0, -1, -52, 54, 55, 104, LOWEST, HIGHEST):
            for year in (-999999, -1, 0, 1970, 2026, 999999):
                with self.subTest(year=year, week=number):
                    self.assertEqual(from_week(year, number, 1), NONE)
                    self.assertEqual(from_week(year, number, 7), NONE)

    def test_days_of_the_week(self):
        for weekday in (0, -1, -6, -7, 8, 9, 14, LOWEST, HIGHEST):
            for year, number in ((-999999, 2), (-1, 52), (1970, 1), (2026, 53), (2027, 26), (999999, 1)):
                with self.subTest(year=year, week=number, weekday=weekday):
                    self.assertEqual(from_week(year, number, weekday), NONE)

    def test_several_wrong_at_once(self):
        self.assertEqual(from_week(1000000, 54, 8), NONE)
        self.assertEqual(from_week(-1000000, 0, 0), NONE)
        self.assertEqual(from_week(2024, 53, 8), NONE)
        self.assertEqual(from_week(999999, 53, 0), NONE)

    def test_the_ends_of_what_may_be_handed_in(self):
        for end in (LOWEST, HIGHEST):
            with self.subTest(end=end):
                self.assertEqual(from_week(end, 1, 1), NONE)
                self.assertEqual(from_week(1970, end, 1), NONE)
                self.assertEqual(from_week(1970, 1, end), NONE)
                self.assertEqual(from_week(end, end, end), NONE)
        self.assertEqual(from_week(LOWEST, HIGHEST, LOWEST), NONE)
        self.assertEqual(from_week(HIGHEST, LOWEST, HIGHEST), NONE)


if __name__ == "__main__":
    unittest.main()
