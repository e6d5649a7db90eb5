import unittest

from dayround.desk import civil
from bounds import FIRST, HIGHEST_LONG, LAST, LOWEST_LONG, NONE


class OrdinaryDays(unittest.TestCase):
    def test_after_1970(self):
        self.assertEqual(civil(1), [0, 1970, 1, 2])
        self.assertEqual(civil(364), [0, 1970, 12, 31])
        self.assertEqual(civil(365), [0, 1971, 1, 1])
        self.assertEqual(civil(10957), [0, 2000, 1, 1])
        self.assertEqual(civil(20773), [0, 2026, 11, 16])
        self.assertEqual(civil(2932896), [0, 9999, 12, 31])
        self.assertEqual(civil(2932897), [0, 10000, 1, 1])

    def test_before_1970(self):
        self.assertEqual(civil(-1), [0, 1969, 12, 31])
        self.assertEqual(civil(-365), [0, 1969, 1, 1])
        self.assertEqual(civil(-366), [0, 1968, 12, 31])
        self.assertEqual(civil(-141427), [0, 1582, 10, 15])
        self.assertEqual(civil(-719162), [0, 1, 1, 1])

    def test_the_year_0_and_below(self):
        self.assertEqual(civil(-719163), [0, 0, 12, 31])
        self.assertEqual(civil(-719528), [0, 0, 1, 1])
        self.assertEqual(civil(-719529), [0, -1, 12, 31])
        self.assertEqual(civil(-719893), [0, -1, 1, 1])
        self.assertEqual(civil(-719894), [0, -2, 12, 31])
        self.assertEqual(civil(-719528 - 146097), [0, -400, 1, 1])
        self.assertEqual(civil(-719529 - 146097), [0, -401, 12, 31])


class Edges(unittest.TestCase):
    def test_day_0(self):
        self.assertEqual(civil(0), [0, 1970, 1, 1])

    def test_first_and_last(self):
        self.assertEqual(civil(FIRST), [0, -999999, 1, 1])
        self.assertEqual(civil(FIRST + 1), [0, -999999, 1, 2])
        self.assertEqual(civil(LAST), [0, 999999, 12, 31])
        self.assertEqual(civil(LAST - 1), [0, 999999, 12, 30])

    def test_the_end_of_each_month_of_2026(self):
        ends = (
            (20484, 31), (20512, 28), (20543, 31), (20573, 30), (20604, 31), (20634, 30),
            (20665, 31), (20696, 31), (20726, 30), (20757, 31), (20787, 30), (20818, 31),
        )
        for month, (end, length) in enumerate(ends, start=1):
            following = [0, 2026, month + 1, 1] if month < 12 else [0, 2027, 1, 1]
            with self.subTest(month=month):
                self.assertEqual(civil(end), [0, 2026, month, length])
                self.assertEqual(civil(end + 1), following)
                self.assertEqual(civil(end - length + 1), [0, 2026, month, 1])

    def test_the_end_of_february_in_long_years(self):
        # The number of 28 February; a multiple of 4, of 400, the year 0, and years before it.
        for year, number in ((2024, 19781), (2000, 11015), (0, -719470), (-4, -720931), (-400, -865567)):
            with self.subTest(year=year):
                self.assertEqual(civil(number), [0, year, 2, 28])
                self.assertEqual(civil(number + 1), [0, year, 2, 29])
                self.assertEqual(civil(number + 2), [0, year, 3, 1])

    def test_the_end_of_february_in_other_years(self):
        # The number of 28 February; no multiple of 4, a multiple of 100, and years before the year 0.
        for year, number in ((2026, 20512), (1900, -25509), (2100, 47540), (-1, -719835), (-100, -755994)):
            with self.subTest(year=year):
                self.assertEqual(civil(number), [0, year, 2, 28])
                self.assertEqual(civil(number + 1), [0, year, 3, 1])

    def test_the_last_day_of_spans_of_years(self):
        # The closing day of a long year is the one that a count by equal spans loses.
        self.assertEqual(civil(1095), [0, 1972, 12, 31])
        self.assertEqual(civil(1096), [0, 1973, 1, 1])
        self.assertEqual(civil(11322), [0, 2000, 12, 31])
        self.assertEqual(civil(11323), [0, 2001, 1, 1])
        self.assertEqual(civil(-25203), [0, 1900, 12, 31])
        self.assertEqual(civil(-25202), [0, 1901, 1, 1])
        self.assertEqual(civil(11322 - 7 * 146097), [0, -800, 12, 31])
        self.assertEqual(civil(11323 - 7 * 146097), [0, -799, 1, 1])


class WrongInputs(unittest.TestCase):
    def test_just_outside_first_and_last(self):
        self.assertEqual(civil(FIRST - 1), NONE)
        self.assertEqual(civil(LAST + 1), NONE)

    def test_far_outside(self):
        for number in (-2147483648, 2147483647, -(2 ** 40), 2 ** 40, FIRST - 146097, LAST + 146097):
            with self.subTest(number=number):
                self.assertEqual(civil(number), NONE)

    def test_the_ends_of_what_may_be_handed_in(self):
        self.assertEqual(civil(LOWEST_LONG), NONE)
        self.assertEqual(civil(HIGHEST_LONG), NONE)


if __name__ == "__main__":
    unittest.main()
