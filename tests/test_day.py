import unittest

from dayround.desk import day
from bounds import FIRST, HIGHEST, LAST, LOWEST, NONE

# Multiples of 4, of 100 and of 400, the year 0 and years before it among them.
LONG_YEARS = (2024, 2000, 1972, 1600, 4, 0, -4, -8, -96, -104, -400, -2000, 999996, -999996, 400000, -400000)
SHORT_YEARS = (
    2023, 2025, 2026, 1900, 2100, 1, 2, 3, 100, 200, 300, -1, -2, -3, -5, -100, -200, -300, -500, -1900,
    999999, 999998, -999999, -999998, 999900, -999900,
)
LENGTHS = {1: 31, 2: 28, 3: 31, 4: 30, 5: 31, 6: 30, 7: 31, 8: 31, 9: 30, 10: 31, 11: 30, 12: 31}


class OrdinaryDays(unittest.TestCase):
    def test_after_1970(self):
        self.assertEqual(day(1970, 1, 2), [0, 1])
        self.assertEqual(day(1970, 12, 31), [0, 364])
        self.assertEqual(day(2000, 1, 1), [0, 10957])
        self.assertEqual(day(2026, 11, 16), [0, 20773])
        self.assertEqual(day(9999, 12, 31), [0, 2932896])

    def test_before_1970(self):
        self.assertEqual(day(1969, 12, 31), [0, -1])
        self.assertEqual(day(1969, 1, 1), [0, -365])
        self.assertEqual(day(1582, 10, 15), [0, -141427])
        self.assertEqual(day(1, 1, 1), [0, -719162])

    def test_the_year_0_and_below(self):
        self.assertEqual(day(0, 12, 31), [0, -719163])
        self.assertEqual(day(0, 3, 1), [0, -719468])
        self.assertEqual(day(0, 1, 1), [0, -719528])
        self.assertEqual(day(-1, 12, 31), [0, -719529])
        self.assertEqual(day(-1, 1, 1), [0, -719893])
        self.assertEqual(day(-400, 1, 1), [0, -719528 - 146097])
        self.assertEqual(day(-400, 3, 1), [0, -719468 - 146097])


class Edges(unittest.TestCase):
    def test_day_0(self):
        self.assertEqual(day(1970, 1, 1), [0, 0])

    def test_first_and_last(self):
        self.assertEqual(day(-999999, 1, 1), [0, FIRST])
        self.assertEqual(day(-999999, 1, 2), [0, FIRST + 1])
        self.assertEqual(day(999999, 12, 31), [0, LAST])
        self.assertEqual(day(999999, 12, 30), [0, LAST - 1])

    def test_the_last_day_of_each_month_is_followed_by_the_next_first(self):
        for year in LONG_YEARS + SHORT_YEARS:
            for month, length in LENGTHS.items():
                last = length + 1 if month == 2 and year in LONG_YEARS else length
                with self.subTest(year=year, month=month):
                    first = day(year, month, 1)
                    self.assertEqual(first[0], 0)
                    self.assertEqual(day(year, month, last), [0, first[1] + last - 1])
                    self.assertEqual(day(year, month, last + 1), NONE)
                    if month < 12:
                        self.assertEqual(day(year, month + 1, 1), [0, first[1] + last])
                    elif year < 999999:
                        self.assertEqual(day(year + 1, 1, 1), [0, first[1] + last])

    def test_the_end_of_each_month_of_2026(self):
        ends = (20484, 20512, 20543, 20573, 20604, 20634, 20665, 20696, 20726, 20757, 20787, 20818)
        for month, end in enumerate(ends, start=1):
            with self.subTest(month=month):
                self.assertEqual(day(2026, month, LENGTHS[month]), [0, end])

    def test_the_end_of_february_in_long_years(self):
        for year in LONG_YEARS:
            with self.subTest(year=year):
                number = day(year, 2, 28)[1]
                self.assertEqual(day(year, 2, 29), [0, number + 1])
                self.assertEqual(day(year, 3, 1), [0, number + 2])
                self.assertEqual(day(year, 2, 30), NONE)

    def test_the_end_of_february_in_other_years(self):
        for year in SHORT_YEARS:
            with self.subTest(year=year):
                number = day(year, 2, 28)[1]
                self.assertEqual(day(year, 2, 29), NONE)
                self.assertEqual(day(year, 3, 1), [0, number + 1])

    def test_the_end_of_february_by_number(self):
        self.assertEqual(day(2000, 2, 29), [0, 11016])
        self.assertEqual(day(1900, 2, 28), [0, -25509])
        self.assertEqual(day(1900, 3, 1), [0, -25508])
        self.assertEqual(day(0, 2, 28), [0, -719470])
        self.assertEqual(day(0, 2, 29), [0, -719469])
        self.assertEqual(day(-4, 2, 29), [0, -719469 - 1461])
        self.assertEqual(day(-100, 2, 28), [0, -719469 - 36525])
        self.assertEqual(day(-100, 3, 1), [0, -719468 - 36525])


class WrongInputs(unittest.TestCase):
    def test_months(self):
        for month in (0, -1, -11, -12, 13, 14, 24, LOWEST, HIGHEST):
            for year in (-999999, -1, 0, 1970, 2024, 999999):
                with self.subTest(year=year, month=month):
                    self.assertEqual(day(year, month, 1), NONE)

    def test_days_of_the_month(self):
        for month, length in LENGTHS.items():
            for number in (0, -1, -30, length + 1, 32, 366, LOWEST, HIGHEST):
                with self.subTest(month=month, number=number):
                    self.assertEqual(day(2026, month, number), NONE)

    def test_years(self):
        for year in (-1000000, 1000000, -1000001, 1000001, -2000000, 2000000, LOWEST, HIGHEST):
            for month, number in ((1, 1), (2, 28), (2, 29), (12, 31)):
                with self.subTest(year=year, month=month, number=number):
                    self.assertEqual(day(year, month, number), NONE)

    def test_the_ends_of_what_may_be_handed_in(self):
        for end in (LOWEST, HIGHEST):
            with self.subTest(end=end):
                self.assertEqual(day(end, 1, 1), NONE)
                self.assertEqual(day(1970, end, 1), NONE)
                self.assertEqual(day(1970, 1, end), NONE)
                self.assertEqual(day(end, end, end), NONE)
        self.assertEqual(day(LOWEST, HIGHEST, LOWEST), NONE)
        self.assertEqual(day(HIGHEST, LOWEST, HIGHEST), NONE)

    def test_days_just_outside_first_and_last(self):
        self.assertEqual(day(-999999, 1, 0), NONE)
        self.assertEqual(day(-1000000, 12, 31), NONE)
        self.assertEqual(day(999999, 12, 32), NONE)
        self.assertEqual(day(1000000, 1, 1), NONE)


if __name__ == "__main__":
    unittest.main()
