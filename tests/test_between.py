import unittest

from dayround.desk import between, civil, day, move
from bounds import FIRST, HIGHEST_LONG, LAST, LOWEST_LONG, NONE, OUT_OF_RANGE
from plain_calendar import length_of_month


class BetweenCase(unittest.TestCase):
    # Dates are year, month, day of the month.
    def assert_between(self, a, b, years, months, days):
        answer = between(day(*a)[1], day(*b)[1])
        if answer != [0, years, months, days]:
            self.fail(f"{a} to {b}: {answer}, not {[0, years, months, days]}")


class OrdinaryPairs(BetweenCase):
    def test_by_number(self):
        self.assertEqual(between(0, 1), [0, 0, 0, 1])
        self.assertEqual(between(0, 30), [0, 0, 0, 30])
        self.assertEqual(between(0, 31), [0, 0, 1, 0])
        self.assertEqual(between(0, 364), [0, 0, 11, 30])
        self.assertEqual(between(0, 365), [0, 1, 0, 0])
        self.assertEqual(between(-1, 0), [0, 0, 0, 1])
        self.assertEqual(between(-365, 20773), [0, 57, 10, 15])
        self.assertEqual(between(-719528, 0), [0, 1970, 0, 0])

    def test_days_only(self):
        self.assert_between((2026, 11, 16), (2026, 11, 17), 0, 0, 1)
        self.assert_between((2026, 11, 16), (2026, 12, 15), 0, 0, 29)
        self.assert_between((2025, 12, 31), (2026, 1, 1), 0, 0, 1)

    def test_months_and_days(self):
        self.assert_between((2026, 11, 16), (2026, 12, 16), 0, 1, 0)
        self.assert_between((2026, 11, 16), (2026, 12, 17), 0, 1, 1)
        self.assert_between((2026, 11, 16), (2027, 1, 1), 0, 1, 16)
        self.assert_between((2026, 1, 10), (2026, 3, 5), 0, 1, 23)
        self.assert_between((2024, 1, 10), (2024, 3, 5), 0, 1, 24)

    def test_years_months_and_days(self):
        self.assert_between((2026, 11, 16), (2027, 11, 15), 0, 11, 30)
        self.assert_between((2026, 11, 16), (2027, 11, 16), 1, 0, 0)
        self.assert_between((1969, 7, 20), (2026, 11, 16), 57, 3, 27)
        self.assert_between((2000, 2, 28), (2100, 3, 1), 100, 0, 1)

    def test_over_the_year_0(self):
        self.assert_between((-1, 12, 31), (0, 1, 1), 0, 0, 1)
        self.assert_between((-1, 12, 31), (1, 1, 1), 1, 0, 1)
        self.assert_between((-44, 3, 15), (14, 8, 19), 58, 5, 4)
        self.assert_between((-2026, 11, 16), (2026, 11, 15), 4051, 11, 30)
        self.assert_between((-2026, 11, 16), (2026, 11, 16), 4052, 0, 0)

    def test_below_the_year_0(self):
        self.assert_between((-400, 1, 1), (-399, 12, 31), 1, 11, 30)
        self.assert_between((-776, 7, 8), (-509, 9, 13), 267, 2, 5)


class EndsOfMonths(BetweenCase):
    def test_the_end_of_january_to_the_end_of_february(self):
        for day_of_month in (28, 29, 30, 31):
            self.assert_between((2026, 1, day_of_month), (2026, 2, 28), 0, 1, 0)
            self.assert_between((2026, 1, day_of_month), (2026, 2, 27), 0, 0, 58 - day_of_month)
            self.assert_between((2026, 1, day_of_month), (2026, 3, 1), 0, 1, 1)

    def test_the_end_of_january_to_the_end_of_february_of_a_long_year(self):
        for day_of_month in (29, 30, 31):
            self.assert_between((2024, 1, day_of_month), (2024, 2, 29), 0, 1, 0)
            self.assert_between((2024, 1, day_of_month), (2024, 2, 28), 0, 0, 59 - day_of_month)
            self.assert_between((2024, 1, day_of_month), (2024, 3, 1), 0, 1, 1)
        self.assert_between((2024, 1, 28), (2024, 2, 29), 0, 1, 1)

    def test_on_from_the_end_of_february(self):
        self.assert_between((2026, 1, 31), (2026, 3, 30), 0, 1, 30)
        self.assert_between((2026, 1, 31), (2026, 3, 31), 0, 2, 0)
        self.assert_between((2026, 1, 30), (2026, 3, 29), 0, 1, 29)
        self.assert_between((2026, 1, 30), (2026, 3, 30), 0, 2, 0)
        self.assert_between((2026, 2, 28), (2026, 3, 31), 0, 1, 3)

    def test_the_31st_to_the_end_of_a_month_of_30_days(self):
        self.assert_between((2026, 3, 31), (2026, 4, 30), 0, 1, 0)
        self.assert_between((2026, 3, 31), (2026, 4, 29), 0, 0, 29)
        self.assert_between((2026, 3, 31), (2026, 5, 1), 0, 1, 1)
        self.assert_between((2026, 3, 30), (2026, 4, 30), 0, 1, 0)
        self.assert_between((2026, 3, 30), (2026, 4, 29), 0, 0, 30)
        self.assert_between((2026, 3, 29), (2026, 4, 30), 0, 1, 1)
        self.assert_between((2025, 12, 31), (2026, 11, 30), 0, 11, 0)
        self.assert_between((2025, 12, 31), (2026, 11, 29), 0, 10, 29)
        self.assert_between((2025, 12, 31), (2026, 12, 30), 0, 11, 30)
        self.assert_between((2025, 12, 31), (2026, 12, 31), 1, 0, 0)

    def test_29_february_as_a(self):
        self.assert_between((2024, 2, 29), (2025, 2, 28), 1, 0, 0)
        self.assert_between((2024, 2, 29), (2025, 2, 27), 0, 11, 29)
        self.assert_between((2024, 2, 29), (2025, 3, 1), 1, 0, 1)
        self.assert_between((2024, 2, 29), (2028, 2, 28), 3, 11, 30)
        self.assert_between((2024, 2, 29), (2028, 2, 29), 4, 0, 0)
        self.assert_between((1896, 2, 29), (1900, 2, 28), 4, 0, 0)
        self.assert_between((1896, 2, 29), (1904, 2, 28), 7, 11, 30)
        self.assert_between((-4, 2, 29), (-1, 2, 28), 3, 0, 0)
        self.assert_between((-4, 2, 29), (0, 2, 28), 3, 11, 30)
        self.assert_between((-4, 2, 29), (0, 2, 29), 4, 0, 0)

    def test_29_february_as_b(self):
        self.assert_between((2023, 2, 28), (2024, 2, 29), 1, 0, 1)
        self.assert_between((2023, 3, 1), (2024, 2, 29), 0, 11, 28)
        self.assert_between((2023, 12, 31), (2024, 2, 29), 0, 2, 0)
        self.assert_between((2024, 2, 28), (2024, 2, 29), 0, 0, 1)
        self.assert_between((2020, 2, 29), (2024, 2, 29), 4, 0, 0)
        self.assert_between((2020, 3, 31), (2024, 2, 29), 3, 11, 0)
        self.assert_between((-1, 2, 28), (0, 2, 29), 1, 0, 1)
        self.assert_between((-1, 12, 30), (0, 2, 29), 0, 2, 0)


class Edges(unittest.TestCase):
    def test_the_same_day(self):
        for number in (0, 1, -1, 20484, 19782, -719528, -719469, FIRST, FIRST + 1, LAST - 1, LAST):
            with self.subTest(number=number):
                self.assertEqual(between(number, number), [0, 0, 0, 0])

    def test_a_day_before(self):
        for number in (0, 1, 20484, 19782, -719528, FIRST + 1, LAST):
            with self.subTest(number=number):
                self.assertEqual(between(number, number - 1), OUT_OF_RANGE)

    def test_first_and_last(self):
        self.assertEqual(between(FIRST, LAST), [0, 1999998, 11, 30])
        self.assertEqual(between(FIRST, LAST - 1), [0, 1999998, 11, 29])
        self.assertEqual(between(FIRST + 1, LAST), [0, 1999998, 11, 29])
        self.assertEqual(between(FIRST + 30, LAST), [0, 1999998, 11, 0])
        self.assertEqual(between(FIRST + 30, LAST - 1), [0, 1999998, 10, 30])
        self.assertEqual(between(FIRST, FIRST + 1), [0, 0, 0, 1])
        self.assertEqual(between(LAST - 1, LAST), [0, 0, 0, 1])
        self.assertEqual(between(LAST, FIRST), OUT_OF_RANGE)

    def test_to_the_end_of_the_last_month(self):
        # A month more would come after LAST.
        self.assertEqual(between(LAST - 30, LAST), [0, 0, 0, 30])
        self.assertEqual(between(LAST - 31, LAST), [0, 0, 1, 1])


class WrongInputs(unittest.TestCase):
    def test_b_before_a(self):
        self.assertEqual(between(1, 0), OUT_OF_RANGE)
        self.assertEqual(between(0, -1), OUT_OF_RANGE)
        self.assertEqual(between(20773, -719528), OUT_OF_RANGE)
        self.assertEqual(between(FIRST + 1, FIRST), OUT_OF_RANGE)

    def test_b_before_a_where_one_is_no_day(self):
        self.assertEqual(between(FIRST, FIRST - 1), OUT_OF_RANGE)
        self.assertEqual(between(0, FIRST - 1), OUT_OF_RANGE)
        self.assertEqual(between(LAST + 1, LAST), OUT_OF_RANGE)
        self.assertEqual(between(LAST + 1, 0), OUT_OF_RANGE)
        self.assertEqual(between(HIGHEST_LONG, 0), OUT_OF_RANGE)
        self.assertEqual(between(0, LOWEST_LONG), OUT_OF_RANGE)

    def test_b_before_a_where_both_are_none(self):
        self.assertEqual(between(FIRST - 1, FIRST - 2), OUT_OF_RANGE)
        self.assertEqual(between(LAST + 2, LAST + 1), OUT_OF_RANGE)
        self.assertEqual(between(LAST + 1, FIRST - 1), OUT_OF_RANGE)
        self.assertEqual(between(HIGHEST_LONG, LOWEST_LONG), OUT_OF_RANGE)
        self.assertEqual(between(LOWEST_LONG + 1, LOWEST_LONG), OUT_OF_RANGE)
        self.assertEqual(between(HIGHEST_LONG, HIGHEST_LONG - 1), OUT_OF_RANGE)

    def test_a_below_first(self):
        for b in (FIRST, FIRST + 1, 0, LAST):
            with self.subTest(b=b):
                self.assertEqual(between(FIRST - 1, b), NONE)
                self.assertEqual(between(LOWEST_LONG, b), NONE)

    def test_b_above_last(self):
        for a in (FIRST, 0, LAST - 1, LAST):
            with self.subTest(a=a):
                self.assertEqual(between(a, LAST + 1), NONE)
                self.assertEqual(between(a, HIGHEST_LONG), NONE)

    def test_both_no_days(self):
        self.assertEqual(between(FIRST - 1, LAST + 1), NONE)
        self.assertEqual(between(FIRST - 1, FIRST - 1), NONE)
        self.assertEqual(between(FIRST - 2, FIRST - 1), NONE)
        self.assertEqual(between(LAST + 1, LAST + 1), NONE)
        self.assertEqual(between(LAST + 1, LAST + 2), NONE)

    def test_the_ends_of_what_may_be_handed_in(self):
        self.assertEqual(between(LOWEST_LONG, HIGHEST_LONG), NONE)
        self.assertEqual(between(LOWEST_LONG, LOWEST_LONG), NONE)
        self.assertEqual(between(HIGHEST_LONG, HIGHEST_LONG), NONE)
        self.assertEqual(between(LOWEST_LONG, LOWEST_LONG + 1), NONE)
        self.assertEqual(between(HIGHEST_LONG - 1, HIGHEST_LONG), NONE)


class GoingOnFromA(unittest.TestCase):
    def assert_parts(self, a, b):
        """Moved by the whole months a isn't after b, the days lead on to b; a month more comes after b."""
        answer = between(a, b)
        self.assertEqual((answer[0], len(answer)), (0, 4), (a, b))
        years, months, days = answer[1:]
        self.assertGreaterEqual(min(years, months, days), 0, (a, b))
        self.assertLess(months, 12, (a, b))
        count = years * 12 + months
        self.assertEqual(move(a, count, 0), [0, b - days], (a, b))
        more = move(a, count + 1, 0)
        if more == NONE:
            # There is no month after that of LAST.
            self.assertGreaterEqual(move(a, count, 0)[1], LAST - 30, (a, b))
        else:
            self.assertGreater(more[1], b, (a, b))

    def test_pairs_spread_from_first_to_last(self):
        for a in range(FIRST, LAST + 1, 9999991):
            for b in range(a, LAST + 1, 7654321):
                self.assert_parts(a, b)
            self.assert_parts(a, LAST)

    def test_pairs_over_the_year_0(self):
        for a in range(-719528 - 900, -719528 + 500, 7):
            for b in range(a, a + 1500, 11):
                self.assert_parts(a, b)

    def test_to_each_day_of_the_last_months(self):
        for a in range(LAST - 200, LAST + 1):
            for b in range(a, LAST + 1):
                self.assert_parts(a, b)

    def test_each_day_b_after_days_a_counted_day_by_day(self):
        # Whole months are counted as they come by, each at the day of the month that a has, or at the month's end.
        for a in range(day(2023, 12, 1)[1], day(2024, 4, 1)[1]):
            day_of_month = civil(a)[3]
            count, days = 0, 0
            for b in range(a, a + 1600):
                year, month, number = civil(b)[1:]
                if b > a and number == min(day_of_month, length_of_month(year, month)):
                    count, days = count + 1, 0
                if between(a, b) != [0, count // 12, count % 12, days]:
                    self.fail(f"{civil(a)} to {civil(b)}: {between(a, b)}, not {count} months and {days} days")
                days += 1


if __name__ == "__main__":
    unittest.main()
