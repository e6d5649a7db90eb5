import unittest

from dayround.desk import civil, day, move
from bounds import FIRST, HIGHEST, HIGHEST_LONG, LAST, LOWEST, LOWEST_LONG, NONE, OUT_OF_RANGE
from plain_calendar import length_of_month

RULES = (0, 1, 2)

LONG_YEARS = (2024, 2000, 4, 0, -4, -400, 999996, -999996)
SHORT_YEARS = (2023, 2026, 1900, 2100, 1, -1, -100, -200, 999999, -999999)


class MoveCase(unittest.TestCase):
    # A date is year, month, day of the month; no date at all is a refusal with -1.
    def assert_move(self, date, months, rule, expected):
        answer = move(day(*date)[1], months, rule)
        told = NONE if expected is None else day(*expected)
        if answer != told:
            self.fail(f"{date} by {months}, rule {rule}: {answer}, not {expected} {told}")

    def assert_rules(self, date, months, last_of_month, first_of_next):
        self.assert_move(date, months, 0, last_of_month)
        self.assert_move(date, months, 1, first_of_next)
        self.assert_move(date, months, 2, None)

    def assert_plain(self, date, months, expected):
        for rule in RULES:
            self.assert_move(date, months, rule, expected)


class OrdinaryMoves(MoveCase):
    def test_by_number(self):
        for rule in RULES:
            with self.subTest(rule=rule):
                self.assertEqual(move(0, 1, rule), [0, 31])
                self.assertEqual(move(0, 12, rule), [0, 365])
                self.assertEqual(move(0, -1, rule), [0, -31])
                self.assertEqual(move(0, -12, rule), [0, -365])
                self.assertEqual(move(20773, 1, rule), [0, 20803])
                self.assertEqual(move(20773, -682, rule), [0, 15])
                self.assertEqual(move(20773, -24322, rule), [0, -719513])

    def test_later(self):
        self.assert_plain((2026, 11, 16), 1, (2026, 12, 16))
        self.assert_plain((2026, 11, 16), 2, (2027, 1, 16))
        self.assert_plain((2026, 11, 16), 3, (2027, 2, 16))
        self.assert_plain((2026, 1, 28), 1, (2026, 2, 28))
        self.assert_plain((2026, 3, 31), 2, (2026, 5, 31))
        self.assert_plain((1969, 12, 31), 1, (1970, 1, 31))

    def test_earlier(self):
        self.assert_plain((2026, 11, 16), -1, (2026, 10, 16))
        self.assert_plain((2026, 11, 16), -10, (2026, 1, 16))
        self.assert_plain((2026, 11, 16), -11, (2025, 12, 16))
        self.assert_plain((2026, 3, 28), -1, (2026, 2, 28))
        self.assert_plain((1970, 1, 1), -1, (1969, 12, 1))

    def test_by_no_month(self):
        for date in ((2026, 11, 16), (2024, 2, 29), (2026, 1, 31), (0, 2, 29), (-1, 12, 31), (-400, 1, 1)):
            self.assert_plain(date, 0, date)

    def test_within_a_year(self):
        for month in range(1, 13):
            for goal in range(1, 13):
                self.assert_plain((2026, month, 16), goal - month, (2026, goal, 16))
                self.assert_plain((-2026, month, 28), goal - month, (-2026, goal, 28))

    def test_over_many_years(self):
        self.assert_plain((2026, 11, 16), 12, (2027, 11, 16))
        self.assert_plain((2026, 11, 16), 1200, (2126, 11, 16))
        self.assert_plain((2026, 11, 16), -1200, (1926, 11, 16))
        self.assert_plain((2024, 2, 29), 48, (2028, 2, 29))
        self.assert_plain((2000, 2, 29), 4800, (2400, 2, 29))
        self.assert_plain((2026, 11, 16), 11975677, (999999, 12, 16))
        self.assert_plain((2026, 11, 16), -12024310, (-999999, 1, 16))

    def test_over_the_year_0(self):
        self.assert_plain((1, 1, 15), -1, (0, 12, 15))
        self.assert_plain((1, 1, 15), -12, (0, 1, 15))
        self.assert_plain((1, 1, 15), -13, (-1, 12, 15))
        self.assert_plain((-1, 12, 31), 1, (0, 1, 31))
        self.assert_plain((-1, 12, 31), 13, (1, 1, 31))
        self.assert_plain((-1, 1, 1), -1, (-2, 12, 1))
        self.assert_plain((2026, 11, 16), -48624, (-2026, 11, 16))
        self.assert_plain((-2026, 11, 16), 48624, (2026, 11, 16))
        self.assert_plain((4, 2, 29), -48, (0, 2, 29))
        self.assert_plain((4, 2, 29), -96, (-4, 2, 29))


class TooShort(MoveCase):
    def test_the_end_of_january_to_february_of_long_years(self):
        for year in LONG_YEARS:
            self.assert_plain((year, 1, 29), 1, (year, 2, 29))
            self.assert_rules((year, 1, 30), 1, (year, 2, 29), (year, 3, 1))
            self.assert_rules((year, 1, 31), 1, (year, 2, 29), (year, 3, 1))

    def test_the_end_of_january_to_february_of_other_years(self):
        for year in SHORT_YEARS:
            self.assert_plain((year, 1, 28), 1, (year, 2, 28))
            self.assert_rules((year, 1, 29), 1, (year, 2, 28), (year, 3, 1))
            self.assert_rules((year, 1, 30), 1, (year, 2, 28), (year, 3, 1))
            self.assert_rules((year, 1, 31), 1, (year, 2, 28), (year, 3, 1))

    def test_the_end_of_march_back_to_february(self):
        self.assert_plain((2024, 3, 29), -1, (2024, 2, 29))
        self.assert_rules((2024, 3, 30), -1, (2024, 2, 29), (2024, 3, 1))
        self.assert_rules((2024, 3, 31), -1, (2024, 2, 29), (2024, 3, 1))
        self.assert_rules((2026, 3, 29), -1, (2026, 2, 28), (2026, 3, 1))
        self.assert_rules((-100, 3, 31), -1, (-100, 2, 28), (-100, 3, 1))

    def test_29_february_to_years_that_are_not_long(self):
        self.assert_rules((2024, 2, 29), 12, (2025, 2, 28), (2025, 3, 1))
        self.assert_rules((2024, 2, 29), -12, (2023, 2, 28), (2023, 3, 1))
        self.assert_rules((2000, 2, 29), 1200, (2100, 2, 28), (2100, 3, 1))
        self.assert_rules((0, 2, 29), -12, (-1, 2, 28), (-1, 3, 1))
        self.assert_rules((0, 2, 29), -1200, (-100, 2, 28), (-100, 3, 1))
        self.assert_plain((2024, 2, 29), 1, (2024, 3, 29))
        self.assert_plain((2024, 2, 29), -1, (2024, 1, 29))

    def test_the_31st_to_each_month(self):
        lengths = (31, 28, 31, 30, 31, 30, 31, 31, 30, 31, 30, 31)
        for month in (1, 3, 5, 7, 8, 10, 12):
            for goal, length in enumerate(lengths, start=1):
                if length == 31:
                    self.assert_plain((2026, month, 31), goal - month, (2026, goal, 31))
                else:
                    self.assert_rules(
                        (2026, month, 31), goal - month, (2026, goal, length), (2026, goal + 1, 1)
                    )

    def test_the_30th_to_each_month(self):
        for month in (1, 3, 4, 5, 6, 7, 8, 9, 10, 11, 12):
            for goal in (1, 3, 4, 5, 6, 7, 8, 9, 10, 11, 12):
                self.assert_plain((-7, month, 30), goal - month, (-7, goal, 30))
            self.assert_rules((-7, month, 30), 2 - month, (-7, 2, 28), (-7, 3, 1))

    def test_31_december(self):
        self.assert_plain((2026, 12, 31), 1, (2027, 1, 31))
        self.assert_rules((2026, 12, 31), 2, (2027, 2, 28), (2027, 3, 1))
        self.assert_rules((2027, 12, 31), 2, (2028, 2, 29), (2028, 3, 1))
        self.assert_rules((2026, 12, 31), -1, (2026, 11, 30), (2026, 12, 1))
        self.assert_rules((2026, 12, 31), 11, (2027, 11, 30), (2027, 12, 1))
        self.assert_plain((2026, 12, 31), 12, (2027, 12, 31))
        self.assert_rules((0, 12, 31), -10, (0, 2, 29), (0, 3, 1))
        self.assert_rules((0, 12, 31), -13, (-1, 11, 30), (-1, 12, 1))

    def test_by_number(self):
        # 31 January 2026, and 31 December 1969.
        self.assertEqual(move(20484, 1, 0), [0, 20512])
        self.assertEqual(move(20484, 1, 1), [0, 20513])
        self.assertEqual(move(20484, 1, 2), NONE)
        self.assertEqual(move(-1, 2, 0), [0, 58])
        self.assertEqual(move(-1, 2, 1), [0, 59])
        self.assertEqual(move(-1, 2, 2), NONE)


class FirstAndLast(MoveCase):
    def test_to_first(self):
        self.assert_plain((-999999, 1, 1), 0, (-999999, 1, 1))
        for rule in RULES:
            with self.subTest(rule=rule):
                self.assertEqual(move(FIRST + 31, -1, rule), [0, FIRST])
                self.assertEqual(move(FIRST + 365, -12, rule), [0, FIRST])
                self.assertEqual(move(0, -12023628, rule), [0, FIRST])

    def test_before_first(self):
        for rule in RULES:
            with self.subTest(rule=rule):
                self.assertEqual(move(FIRST, -1, rule), NONE)
                self.assertEqual(move(FIRST + 30, -1, rule), NONE)
                self.assertEqual(move(FIRST + 30, -2, rule), NONE)
                self.assertEqual(move(FIRST + 58, -2, rule), NONE)
                self.assertEqual(move(FIRST + 364, -12, rule), NONE)
                self.assertEqual(move(FIRST + 365, -13, rule), NONE)
                self.assertEqual(move(0, -12023629, rule), NONE)

    def test_to_last(self):
        self.assert_plain((999999, 12, 31), 0, (999999, 12, 31))
        for rule in RULES:
            with self.subTest(rule=rule):
                self.assertEqual(move(LAST - 61, 2, rule), [0, LAST])
                self.assertEqual(move(LAST - 365, 12, rule), [0, LAST])
                self.assertEqual(move(LAST - 30, 0, rule), [0, LAST - 30])
                self.assertEqual(move(-1, 11976360, rule), [0, LAST])

    def test_after_last(self):
        for rule in RULES:
            with self.subTest(rule=rule):
                self.assertEqual(move(LAST, 1, rule), NONE)
                self.assertEqual(move(LAST, 2, rule), NONE)
                self.assertEqual(move(LAST - 30, 1, rule), NONE)
                self.assertEqual(move(LAST - 61, 3, rule), NONE)
                self.assertEqual(move(LAST - 364, 12, rule), NONE)
                self.assertEqual(move(-1, 11976361, rule), NONE)

    def test_too_short_at_the_end_of_the_year_999999(self):
        self.assert_rules((999999, 10, 31), 1, (999999, 11, 30), (999999, 12, 1))
        self.assert_rules((999999, 12, 31), -1, (999999, 11, 30), (999999, 12, 1))
        self.assert_rules((999998, 12, 31), 11, (999999, 11, 30), (999999, 12, 1))
        self.assert_rules((999998, 12, 31), 2, (999999, 2, 28), (999999, 3, 1))
        self.assert_plain((999999, 11, 30), 1, (999999, 12, 30))

    def test_too_short_at_the_beginning_of_the_year_minus_999999(self):
        self.assert_rules((-999999, 1, 31), 1, (-999999, 2, 28), (-999999, 3, 1))
        self.assert_rules((-999999, 12, 31), -10, (-999999, 2, 28), (-999999, 3, 1))
        self.assert_plain((-999999, 1, 31), -2, None)

    def test_the_most_months(self):
        for rule in RULES:
            with self.subTest(rule=rule):
                for number in (FIRST, -719528, 0, 20484, LAST):
                    self.assertEqual(move(number, 24000000, rule), NONE)
                    self.assertEqual(move(number, -24000000, rule), NONE)

    def test_from_the_first_month_to_the_last(self):
        for rule in RULES:
            with self.subTest(rule=rule):
                self.assertEqual(move(FIRST, 23999987, rule), [0, LAST - 30])
                self.assertEqual(move(FIRST + 30, 23999987, rule), [0, LAST])
                self.assertEqual(move(FIRST, 23999988, rule), NONE)
                self.assertEqual(move(LAST, -23999987, rule), [0, FIRST + 30])
                self.assertEqual(move(LAST - 30, -23999987, rule), [0, FIRST])
                self.assertEqual(move(LAST, -23999988, rule), NONE)


class WrongInputs(unittest.TestCase):
    def test_rules(self):
        for rule in (-1, 3, -2, 4, LOWEST, HIGHEST):
            for number, months in ((0, 0), (20484, 1), (-719528, -1), (FIRST, 0), (LAST, 0), (LAST, 1)):
                with self.subTest(rule=rule, day=number, months=months):
                    self.assertEqual(move(number, months, rule), OUT_OF_RANGE)

    def test_months(self):
        for months in (-24000001, 24000001, LOWEST, HIGHEST, LOWEST_LONG, HIGHEST_LONG):
            for rule in RULES:
                for number in (0, FIRST, LAST):
                    with self.subTest(rule=rule, day=number, months=months):
                        self.assertEqual(move(number, months, rule), OUT_OF_RANGE)

    def test_days(self):
        for number in (FIRST - 1, LAST + 1, FIRST - 365, LAST + 365, LOWEST_LONG, HIGHEST_LONG):
            for rule in RULES:
                for months in (0, 1, -1, 12, -12, 24000000, -24000000):
                    with self.subTest(rule=rule, day=number, months=months):
                        self.assertEqual(move(number, months, rule), NONE)

    def test_a_move_from_outside_to_a_day_is_refused(self):
        for rule in RULES:
            with self.subTest(rule=rule):
                self.assertEqual(move(FIRST - 1, 1, rule), NONE)
                self.assertEqual(move(LAST + 1, -1, rule), NONE)

    def test_out_of_range_comes_before_all_else(self):
        for number in (FIRST - 1, LAST + 1, LOWEST_LONG, HIGHEST_LONG):
            with self.subTest(day=number):
                self.assertEqual(move(number, 0, -1), OUT_OF_RANGE)
                self.assertEqual(move(number, 0, 3), OUT_OF_RANGE)
                self.assertEqual(move(number, -24000001, 0), OUT_OF_RANGE)
                self.assertEqual(move(number, 24000001, 2), OUT_OF_RANGE)
                self.assertEqual(move(number, 24000001, 3), OUT_OF_RANGE)
                self.assertEqual(move(number, LOWEST_LONG, LOWEST), OUT_OF_RANGE)
                self.assertEqual(move(number, HIGHEST_LONG, HIGHEST), OUT_OF_RANGE)
        self.assertEqual(move(0, 24000001, 3), OUT_OF_RANGE)
        self.assertEqual(move(0, -24000001, -1), OUT_OF_RANGE)
        self.assertEqual(move(LAST, 1, 3), OUT_OF_RANGE)

    def test_the_ends_of_what_may_be_handed_in(self):
        self.assertEqual(move(LOWEST_LONG, 1, 0), NONE)
        self.assertEqual(move(HIGHEST_LONG, -1, 1), NONE)
        self.assertEqual(move(0, LOWEST_LONG, 0), OUT_OF_RANGE)
        self.assertEqual(move(0, HIGHEST_LONG, 1), OUT_OF_RANGE)
        self.assertEqual(move(0, 1, LOWEST), OUT_OF_RANGE)
        self.assertEqual(move(0, 1, HIGHEST), OUT_OF_RANGE)


def following(year, month):
    return (year, month + 1) if month < 12 else (year + 1, 1)


class MonthByMonth(MoveCase):
    # Goes on month by month, with no sum of months, and looks at each month's own length.
    def walk(self, date, months):
        year, month, day_of_month = date
        for count in range(months + 1):
            length = length_of_month(year, month)
            if day_of_month <= length:
                self.assert_plain(date, count, (year, month, day_of_month))
                self.assert_plain((year, month, day_of_month), -count, date)
            else:
                self.assert_rules(date, count, (year, month, length), following(year, month) + (1,))
            year, month = following(year, month)

    def test_from_each_day_of_a_long_year(self):
        for number in range(day(2024, 1, 1)[1], day(2025, 1, 1)[1]):
            self.walk(tuple(civil(number)[1:]), 40)

    def test_from_each_day_of_the_year_before_the_year_0(self):
        for number in range(day(-1, 1, 1)[1], day(0, 1, 1)[1]):
            self.walk(tuple(civil(number)[1:]), 30)

    def test_over_some_400_years(self):
        self.walk((-200, 1, 31), 4900)
        self.walk((1800, 2, 28), 4900)
        self.walk((-4, 2, 29), 4900)

    def test_the_first_and_the_last_years(self):
        for day_of_month in (1, 28, 29, 30, 31):
            self.walk((-999999, 1, day_of_month), 60)
            self.walk((999995, 1, day_of_month), 59)


if __name__ == "__main__":
    unittest.main()
