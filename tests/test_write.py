import datetime
import unittest

from dayround.desk import civil, day, from_week, week, write
from bounds import FIRST, HIGHEST, HIGHEST_LONG, LAST, LOWEST, LOWEST_LONG, NONE, OUT_OF_RANGE
from plain_calendar import is_long

FORMS = (0, 1, 2)


def signs(text):
    return list(text.encode("ascii"))


def first_of_year(year):
    return day(year, 1, 1)[1]


class WriteCase(unittest.TestCase):
    def assert_text(self, form, number, text):
        answer = write(form, number, 32)
        if answer != [len(text)] + signs(text):
            self.fail(f"form {form} of {number}: {answer}, {bytes(answer[1:])!r}, not {text}")

    def assert_texts(self, number, by_month, by_week, by_year):
        self.assert_text(0, number, by_month)
        self.assert_text(1, number, by_week)
        self.assert_text(2, number, by_year)


class OrdinaryDays(WriteCase):
    def test_sign_by_sign(self):
        # 45 is the minus, 48 the digit 0, 87 the W.
        self.assertEqual(write(0, 20773, 32), [10, 50, 48, 50, 54, 45, 49, 49, 45, 49, 54])
        self.assertEqual(write(1, 20773, 32), [10, 50, 48, 50, 54, 45, 87, 52, 55, 45, 49])
        self.assertEqual(write(2, 20773, 32), [8, 50, 48, 50, 54, 45, 51, 50, 48])
        self.assertEqual(write(2, -719529, 32), [9, 45, 48, 48, 48, 49, 45, 51, 54, 53])

    def test_each_digit(self):
        self.assertEqual(write(2, first_of_year(123456) + 78, 32)[1:], [49, 50, 51, 52, 53, 54, 45, 48, 55, 57])
        self.assertEqual(write(2, first_of_year(789012) + 344, 32)[1:], [55, 56, 57, 48, 49, 50, 45, 51, 52, 53])

    def test_days_of_these_years(self):
        self.assert_texts(0, "1970-01-01", "1970-W01-4", "1970-001")
        self.assert_texts(-1, "1969-12-31", "1970-W01-3", "1969-365")
        self.assert_texts(20773, "2026-11-16", "2026-W47-1", "2026-320")
        self.assert_texts(11016, "2000-02-29", "2000-W09-2", "2000-060")
        self.assert_texts(20819, "2027-01-01", "2026-W53-5", "2027-001")

    def test_days_spread_as_datetime_writes_them(self):
        for number in range(-719162, 2932896, 997):
            date = datetime.date.fromordinal(number + 719163)
            year, week_number, weekday = date.isocalendar()
            self.assert_text(0, number, date.isoformat())
            self.assert_text(1, number, f"{year:04}-W{week_number:02}-{weekday}")
            self.assert_text(2, number, f"{date.year:04}-{date.timetuple().tm_yday:03}")


class Years(WriteCase):
    # A year, and how it is to be written.
    WRITTEN = (
        (0, "0000"), (1, "0001"), (9, "0009"), (10, "0010"), (99, "0099"), (100, "0100"), (999, "0999"), (1000, "1000"),
        (9999, "9999"), (10000, "10000"), (99999, "99999"), (100000, "100000"), (999999, "999999"),
        (-1, "-0001"), (-9, "-0009"), (-10, "-0010"), (-99, "-0099"), (-100, "-0100"), (-999, "-0999"),
        (-1000, "-1000"), (-9999, "-9999"), (-10000, "-10000"), (-99999, "-99999"), (-100000, "-100000"),
        (-999999, "-999999"),
    )

    def test_form_0(self):
        for year, written in self.WRITTEN:
            self.assert_text(0, day(year, 1, 1)[1], written + "-01-01")
            self.assert_text(0, day(year, 7, 20)[1], written + "-07-20")
            self.assert_text(0, day(year, 12, 31)[1], written + "-12-31")

    def test_form_1(self):
        for year, written in self.WRITTEN:
            self.assert_text(1, from_week(year, 1, 1)[1], written + "-W01-1")
            self.assert_text(1, from_week(year, 30, 4)[1], written + "-W30-4")
            self.assert_text(1, from_week(year, 52, 5)[1], written + "-W52-5")

    def test_form_2(self):
        for year, written in self.WRITTEN:
            self.assert_text(2, day(year, 1, 1)[1], written + "-001")
            self.assert_text(2, day(year, 2, 28)[1], written + "-059")
            self.assert_text(2, day(year, 12, 31)[1], written + ("-366" if is_long(year) else "-365"))


class PartsOfAYear(WriteCase):
    def test_months_and_days(self):
        for year, written in ((2026, "2026"), (0, "0000"), (-44, "-0044")):
            for month in range(1, 13):
                for day_of_month in range(1, 29):
                    told = written + "-" + str(100 + month)[1:] + "-" + str(100 + day_of_month)[1:]
                    self.assert_text(0, day(year, month, day_of_month)[1], told)

    def test_ends_of_months(self):
        for month, length in enumerate((31, 29, 31, 30, 31, 30, 31, 31, 30, 31, 30, 31), start=1):
            self.assert_text(0, day(2024, month, length)[1], "2024-" + str(100 + month)[1:] + "-" + str(length))

    def test_weeks_and_days_of_the_week(self):
        # 2026 and -2 have 53 weeks.
        for year, written in ((2026, "2026"), (-2, "-0002")):
            first = from_week(year, 1, 1)[1]
            for place in range(53 * 7):
                told = written + "-W" + str(101 + place // 7)[1:] + "-" + str(place % 7 + 1)
                self.assert_text(1, first + place, told)

    def test_days_of_the_year(self):
        for year, written in (
            (2026, "2026"), (2024, "2024"), (1900, "1900"), (0, "0000"), (-1, "-0001"), (-4, "-0004"),
        ):
            length = 366 if is_long(year) else 365
            for place in range(1, length + 1):
                self.assert_text(2, first_of_year(year) + place - 1, written + "-" + str(1000 + place)[1:])


class TheTurnOfYears(WriteCase):
    def test_of_these_years(self):
        self.assert_text(1, day(2026, 12, 31)[1], "2026-W53-4")
        self.assert_text(1, day(2027, 1, 3)[1], "2026-W53-7")
        self.assert_text(1, day(2027, 1, 4)[1], "2027-W01-1")
        self.assert_text(1, day(2024, 12, 29)[1], "2024-W52-7")
        self.assert_text(1, day(2024, 12, 30)[1], "2025-W01-1")
        self.assert_text(1, day(2025, 12, 29)[1], "2026-W01-1")

    def test_about_the_year_0(self):
        # 1 January 0 is a 6, 1 January -1 a 5, 1 January 1 a 1.
        self.assert_texts(day(-1, 1, 1)[1], "-0001-01-01", "-0002-W53-5", "-0001-001")
        self.assert_texts(day(-1, 1, 3)[1], "-0001-01-03", "-0002-W53-7", "-0001-003")
        self.assert_texts(day(-1, 1, 4)[1], "-0001-01-04", "-0001-W01-1", "-0001-004")
        self.assert_texts(day(-1, 12, 31)[1], "-0001-12-31", "-0001-W52-5", "-0001-365")
        self.assert_texts(day(0, 1, 1)[1], "0000-01-01", "-0001-W52-6", "0000-001")
        self.assert_texts(day(0, 1, 2)[1], "0000-01-02", "-0001-W52-7", "0000-002")
        self.assert_texts(day(0, 1, 3)[1], "0000-01-03", "0000-W01-1", "0000-003")
        self.assert_texts(day(0, 12, 31)[1], "0000-12-31", "0000-W52-7", "0000-366")
        self.assert_texts(day(1, 1, 1)[1], "0001-01-01", "0001-W01-1", "0001-001")

    def test_between_9999_and_10000(self):
        # 1 January 10000 is a 6.
        self.assert_texts(day(9999, 12, 31)[1], "9999-12-31", "9999-W52-5", "9999-365")
        self.assert_texts(day(10000, 1, 1)[1], "10000-01-01", "9999-W52-6", "10000-001")
        self.assert_texts(day(10000, 1, 2)[1], "10000-01-02", "9999-W52-7", "10000-002")
        self.assert_texts(day(10000, 1, 3)[1], "10000-01-03", "10000-W01-1", "10000-003")

    def test_between_minus_10000_and_minus_9999(self):
        # 1 January -9999 is a 1, as 1 January 2001 is: 12000 years are 30 times 400, of 20871 weeks each.
        self.assert_texts(day(-10000, 12, 31)[1], "-10000-12-31", "-10000-W52-7", "-10000-366")
        self.assert_texts(day(-9999, 1, 1)[1], "-9999-01-01", "-9999-W01-1", "-9999-001")
        self.assert_texts(day(-9998, 1, 1)[1], "-9998-01-01", "-9998-W01-2", "-9998-001")
        self.assert_texts(day(-9999, 12, 31)[1], "-9999-12-31", "-9998-W01-1", "-9999-365")

    def test_years_and_weeks_are_those_of_week(self):
        for year in list(range(-30, 31)) + list(range(9990, 10011)) + list(range(-10010, -9989)):
            for number in range(first_of_year(year) - 5, first_of_year(year) + 6):
                told_year, told_week, weekday = week(number)[1:]
                digits = str(abs(told_year)).rjust(4, "0")
                minus = "-" if told_year < 0 else ""
                self.assert_text(1, number, f"{minus}{digits}-W{told_week:02}-{weekday}")


class FirstAndLast(WriteCase):
    def test_first(self):
        self.assert_texts(FIRST, "-999999-01-01", "-999999-W01-1", "-999999-001")
        self.assert_texts(FIRST + 1, "-999999-01-02", "-999999-W01-2", "-999999-002")

    def test_last(self):
        self.assert_texts(LAST, "999999-12-31", "999999-W52-5", "999999-365")
        self.assert_texts(LAST - 1, "999999-12-30", "999999-W52-4", "999999-364")


class Most(WriteCase):
    def test_each_most(self):
        for form, number, text in (
            (0, 20773, "2026-11-16"), (1, 20773, "2026-W47-1"), (2, 20773, "2026-320"),
            (0, FIRST, "-999999-01-01"), (1, FIRST, "-999999-W01-1"), (2, FIRST, "-999999-001"),
            (0, LAST, "999999-12-31"), (1, LAST, "999999-W52-5"), (2, LAST, "999999-365"),
            (2, -719529, "-0001-365"),
        ):
            for most in range(33):
                with self.subTest(text=text, most=most):
                    self.assertEqual(write(form, number, most), [len(text)] + signs(text[:most]))

    def test_by_number(self):
        self.assertEqual(write(0, 20773, 0), [10])
        self.assertEqual(write(0, 20773, 1), [10, 50])
        self.assertEqual(write(0, 20773, 9), [10, 50, 48, 50, 54, 45, 49, 49, 45, 49])
        self.assertEqual(write(0, 20773, 10), write(0, 20773, 32))
        self.assertEqual(write(2, 20773, 4), [8, 50, 48, 50, 54])
        self.assertEqual(write(1, FIRST, 0), [13])
        self.assertEqual(write(1, FIRST, 1), [13, 45])


class WrongInputs(WriteCase):
    def test_form(self):
        for form in (-1, 3, 4, LOWEST, HIGHEST):
            for most in (0, 10, 32):
                with self.subTest(form=form, most=most):
                    self.assertEqual(write(form, 20773, most), OUT_OF_RANGE)

    def test_most(self):
        for most in (-1, 33, 34, LOWEST, HIGHEST):
            for form in FORMS:
                with self.subTest(form=form, most=most):
                    self.assertEqual(write(form, 20773, most), OUT_OF_RANGE)

    def test_day(self):
        for number in (FIRST - 1, LAST + 1, FIRST - 7, LAST + 7, LOWEST_LONG, HIGHEST_LONG):
            for form in FORMS:
                for most in (0, 10, 32):
                    with self.subTest(day=number, form=form, most=most):
                        self.assertEqual(write(form, number, most), NONE)

    def test_out_of_range_comes_before_all_else(self):
        for number in (FIRST - 1, LAST + 1, LOWEST_LONG, HIGHEST_LONG):
            with self.subTest(day=number):
                self.assertEqual(write(-1, number, 32), OUT_OF_RANGE)
                self.assertEqual(write(3, number, 0), OUT_OF_RANGE)
                self.assertEqual(write(0, number, -1), OUT_OF_RANGE)
                self.assertEqual(write(2, number, 33), OUT_OF_RANGE)
                self.assertEqual(write(HIGHEST, number, LOWEST), OUT_OF_RANGE)

    def test_several_at_once(self):
        self.assertEqual(write(-1, 20773, -1), OUT_OF_RANGE)
        self.assertEqual(write(3, 20773, 33), OUT_OF_RANGE)
        self.assertEqual(write(LOWEST, LOWEST_LONG, LOWEST), OUT_OF_RANGE)
        self.assertEqual(write(HIGHEST, HIGHEST_LONG, HIGHEST), OUT_OF_RANGE)


class WrittenFromTheParts(WriteCase):
    # Over the whole calendar the texts hold what civil and week tell.
    def test_days_spread_from_first_to_last(self):
        for number in range(FIRST, LAST + 1, 54321):
            year, month, day_of_month = civil(number)[1:]
            minus = "-" if year < 0 else ""
            self.assert_text(0, number, f"{minus}{abs(year):04}-{month:02}-{day_of_month:02}")
            self.assert_text(2, number, f"{minus}{abs(year):04}-{number - first_of_year(year) + 1:03}")
            year, week_number, weekday = week(number)[1:]
            minus = "-" if year < 0 else ""
            self.assert_text(1, number, f"{minus}{abs(year):04}-W{week_number:02}-{weekday}")


if __name__ == "__main__":
    unittest.main()
