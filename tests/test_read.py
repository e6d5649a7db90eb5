import datetime
import unittest

from dayround.desk import day, from_week, read, write
from bounds import FIRST, LAST, NONE, OUT_OF_RANGE
from plain_calendar import is_long

FORMS = (0, 1, 2)

# Texts that write writes, each with its day.
WRITTEN = (
    ("1970-01-01", 0), ("1970-W01-4", 0), ("1970-001", 0), ("1969-12-31", -1), ("1970-W01-3", -1), ("1969-365", -1),
    ("2026-11-16", 20773), ("2026-W47-1", 20773), ("2026-320", 20773), ("2000-02-29", 11016), ("2000-060", 11016),
    ("2027-01-01", 20819), ("2026-W53-5", 20819), ("2027-001", 20819), ("2024-12-30", 20087), ("2025-W01-1", 20087),
    ("2024-365", 20087), ("2024-366", 20088),
    ("0000-01-01", -719528), ("-0001-W52-6", -719528), ("0000-001", -719528), ("0000-366", -719163),
    ("-0001-12-31", -719529), ("-0001-W52-5", -719529), ("-0001-365", -719529), ("0001-001", -719162),
    ("10000-01-01", 2932897), ("9999-W52-6", 2932897), ("10000-001", 2932897),
    ("-999999-01-01", FIRST), ("-999999-W01-1", FIRST), ("-999999-001", FIRST),
    ("999999-12-31", LAST), ("999999-W52-5", LAST), ("999999-365", LAST),
)


def signs(text):
    return list(text.encode("latin-1"))


class ReadCase(unittest.TestCase):
    def assert_none(self, *texts):
        for text in texts:
            if read(signs(text)) != NONE:
                self.fail(f"{text!r}: {read(signs(text))}")

    def assert_back(self, number):
        for form in FORMS:
            text = write(form, number, 32)[1:]
            if read(text) != [0, number]:
                self.fail(f"{bytes(text)!r} of {number}: {read(text)}")


class WrittenTexts(ReadCase):
    def test_by_number(self):
        self.assertEqual(read([50, 48, 50, 54, 45, 49, 49, 45, 49, 54]), [0, 20773])
        self.assertEqual(read([50, 48, 50, 54, 45, 87, 52, 55, 45, 49]), [0, 20773])
        self.assertEqual(read([50, 48, 50, 54, 45, 51, 50, 48]), [0, 20773])
        self.assertEqual(read([45, 48, 48, 48, 49, 45, 51, 54, 53]), [0, -719529])

    def test_texts(self):
        for text, number in WRITTEN:
            with self.subTest(text=text):
                self.assertEqual(read(signs(text)), [0, number])

    def test_days_spread_as_datetime_writes_them(self):
        for number in range(-719162, 2932896, 997):
            date = datetime.date.fromordinal(number + 719163)
            year, week_number, weekday = date.isocalendar()
            self.assertEqual(read(signs(date.isoformat())), [0, number])
            self.assertEqual(read(signs(f"{year:04}-W{week_number:02}-{weekday}")), [0, number])
            self.assertEqual(read(signs(f"{date.year:04}-{date.timetuple().tm_yday:03}")), [0, number])

    def test_the_text_is_as_it_was(self):
        for text in ("", "2026-11-16", "-0001-W52-6", "2026-366", "2026-W54-1", "-", "x" * 32, "x" * 33):
            handed_in = signs(text)
            read(handed_in)
            self.assertEqual(handed_in, signs(text))


class BackAndForth(ReadCase):
    def test_days_spread_from_first_to_last(self):
        for number in range(FIRST, LAST + 1, 33331):
            self.assert_back(number)

    def test_each_day_about_the_year_0(self):
        for number in range(-719528 - 1500, -719528 + 1500):
            self.assert_back(number)

    def test_each_day_of_these_years(self):
        for number in range(day(2023, 1, 1)[1], day(2029, 1, 1)[1]):
            self.assert_back(number)

    def test_the_first_and_the_last_days(self):
        for number in list(range(FIRST, FIRST + 800)) + list(range(LAST - 800, LAST + 1)):
            self.assert_back(number)

    def test_the_turns_of_years_of_each_length(self):
        for turn in (0, 1, 10, 100, 1000, 10000, 100000, -9, -99, -999, -9999, -99999, 999999, -999998):
            first = day(turn, 1, 1)[1]
            for number in range(first - 10, first + 10):
                self.assert_back(number)


class YearsNotSoWritten(ReadCase):
    def test_fewer_than_four_digits(self):
        for year in ("", "0", "1", "26", "026", "999", "-1", "-26", "-026", "-999", "-"):
            self.assert_none(year + "-01-01", year + "-W01-1", year + "-001")

    def test_more_digits_than_it_needs(self):
        for year in ("00000", "02026", "002026", "0002026", "010000", "0010000", "0100000", "0999999", "-00001",
                     "-02026", "-09999", "-010000", "-0100000", "-0999999"):
            self.assert_none(year + "-01-01", year + "-W01-1", year + "-001")

    def test_as_many_digits_as_fit(self):
        self.assert_none("0" * 26 + "-01-01", "0" * 22 + "2026-11-16", "0" * 22 + "2026-W47-1", "0" * 24 + "2026-320")
        self.assert_none("9" * 26 + "-01-01", "9" * 26 + "-W01-1", "9" * 28 + "-001", "-" + "9" * 27 + "-001")

    def test_a_minus_before_the_year_0(self):
        self.assert_none("-0000-01-01", "-0000-W01-1", "-0000-001", "-0000-12-31", "-0000-W52-7", "-0000-366")
        self.assertEqual(read(signs("0000-W01-1")), [0, -719526])

    def test_a_plus_or_a_blank(self):
        for text, number in WRITTEN:
            self.assert_none("+" + text, " " + text, text + " ", text + "+", text + "\n", "\n" + text, "\t" + text)
        self.assert_none("+026-01-01", " 026-01-01", "2026 01 01", "2026- 1-01", "2026-01- 1", "2026-+1-01")
        self.assert_none("2026-W 1-1", "2026-W+1-1", "2026- 01", "2026-+01", "2026-  1", "- 026-01-01", "-+026-01-01")

    def test_two_minuses(self):
        self.assert_none("--0001-12-31", "--0001-W52-5", "--0001-365", "--001-12-31", "--999999-01-01", "-2026--1-01")

    def test_beyond_the_calendar(self):
        for year in ("1000000", "-1000000", "1000001", "-1000001", "9999999", "10000000", "-10000000"):
            self.assert_none(year + "-01-01", year + "-12-31", year + "-W01-1", year + "-W52-7", year + "-001")
            self.assert_none(year + "-365", year + "-366")


class NoSuchDays(ReadCase):
    def test_months(self):
        self.assert_none("2026-00-01", "2026-13-01", "2026-20-01", "2026-99-31", "0000-00-31", "-0001-13-01")
        self.assert_none("-999999-00-31", "999999-13-01")

    def test_days_of_months(self):
        for year in (2026, 2024):
            for month, length in enumerate((31, 29 if is_long(year) else 28, 31, 30, 31, 30, 31, 31, 30, 31, 30, 31)):
                start = f"{year}-{month + 1:02}-"
                self.assertEqual(read(signs(start + str(length)))[0], 0)
                self.assert_none(*[f"{start}{number:02}" for number in range(length + 1, 100)])
                self.assert_none(start + "00")

    def test_february(self):
        self.assert_none("2026-02-29", "1900-02-29", "2100-02-29", "-0001-02-29", "-0100-02-29", "999999-02-29")
        self.assert_none("2024-02-30", "2026-02-30", "0000-02-30", "2000-02-30", "2000-02-31")
        for text in ("2024-02-29", "2000-02-29", "0000-02-29", "-0004-02-29", "-0400-02-29"):
            self.assertEqual(read(signs(text))[0], 0)

    def test_weeks(self):
        self.assert_none("2026-W00-1", "2026-W54-1", "2026-W99-1", "2026-W60-7", "0000-W00-7")
        # 2026 and -2 have 53 weeks, the others 52.
        self.assertEqual(read(signs("2026-W53-1")), from_week(2026, 53, 1))
        self.assertEqual(read(signs("-0002-W53-7")), from_week(-2, 53, 7))
        for year in ("2025", "2027", "2024", "0000", "-0001", "-0003", "10000", "999999", "-999999"):
            self.assert_none(*[f"{year}-W53-{weekday}" for weekday in range(1, 8)])

    def test_days_of_the_week(self):
        for text in ("2026-W01-", "2026-W47-", "2026-W53-", "0000-W52-", "-0001-W52-", "-999999-W01-"):
            self.assertEqual(read(signs(text + "1"))[0], 0)
            self.assertEqual(read(signs(text + "7"))[0], 0)
            self.assert_none(text + "0", text + "8", text + "9")

    def test_days_of_the_year(self):
        for year, long_year in (
            ("2026", False), ("2024", True), ("1900", False), ("0000", True), ("-0001", False), ("-0004", True),
            ("999999", False), ("-999996", True),
        ):
            self.assertEqual(read(signs(year + "-366"))[0], 0 if long_year else -1)
            self.assertEqual(read(signs(year + "-365"))[0], 0)
            self.assert_none(year + "-000", year + "-367", year + "-368", year + "-400", year + "-999")

    def test_weeks_that_go_beyond_last(self):
        # LAST is a 5; FIRST is a 1, so no week lies about FIRST.
        self.assertEqual(read(signs("999999-W52-5")), [0, LAST])
        self.assert_none("999999-W52-6", "999999-W52-7", "999999-W53-1", "1000000-W01-1")
        self.assert_none("-1000000-W52-7", "-1000000-W53-7", "-999999-W00-7")


class NoneOfTheForms(ReadCase):
    def test_no_text(self):
        self.assertEqual(read([]), NONE)

    def test_a_small_w(self):
        self.assert_none("2026-w47-1", "-0001-w52-6", "999999-w52-5", "-999999-w01-1")

    def test_other_letters(self):
        self.assert_none("2026-X47-1", "2026-V47-1", "2026-M11-16", "2026-1147-1", "2026-W47-W", "W2026-47-1")

    def test_other_marks_between(self):
        self.assert_none("2026/11/16", "2026.11.16", "2026,11,16", "2026:11:16", "2026-11.16", "2026.11-16")
        self.assert_none("2026_320", "2026W47-1", "2026-W471", "2026W471", "20261116", "2026320", "2026-1116")

    def test_parts_of_a_text(self):
        self.assert_none("2026", "2026-", "2026-11", "2026-11-", "2026-W", "2026-W4", "2026-W47", "2026-W47-", "-")
        self.assert_none("0", "1", "W", "-W", "-1", "-001", "-11-16", "-W47-1", "11-16", "W47-1", "320", "--")

    def test_parts_in_another_order(self):
        self.assert_none("16-11-2026", "11-16-2026", "320-2026", "1-W47-2026", "W47-2026-1", "47-1-2026")

    def test_two_texts_together(self):
        self.assert_none("2026-11-162026-11-16", "2026-11-16-2026-11-16", "2026-3202026-320", "2026-320-2026-320")
        self.assert_none("2026-11-16-320", "2026-W47-1-16", "2026-11-W47-1", "2026-W47-11-16", "2026-11-16T00:00:00")

    def test_texts_of_32_characters(self):
        for sign in "-0123456789W w+\x00\xff":
            self.assert_none(sign * 32)
        for text, number in WRITTEN:
            self.assert_none(text + " " * (32 - len(text)), " " * (32 - len(text)) + text)
            self.assert_none(text + "0" * (32 - len(text)), "0" * (32 - len(text)) + text)
            self.assert_none(text + "\x00" * (32 - len(text)), "-" * (32 - len(text)) + text)

    def test_a_text_of_each_length(self):
        for length in range(33):
            self.assert_none("0" * length, "-" * length, "\x00" * length, "\xff" * length)

    def test_texts_of_33_characters_are_too_long(self):
        self.assertEqual(read([48] * 33), OUT_OF_RANGE)
        self.assertEqual(read(signs("2026-11-16" + " " * 23)), OUT_OF_RANGE)
        self.assertEqual(read([0] * 1000), OUT_OF_RANGE)


class OneSignChanged(ReadCase):
    # A changed text may be that of another day; then write writes it so.
    def assert_just_as_written(self, text):
        answer = read(text)
        if answer != NONE:
            self.assertEqual((answer[0], len(answer)), (0, 2))
            self.assertIn(text, [write(form, answer[1], 32)[1:] for form in FORMS])

    def test_each_sign_in_each_place(self):
        for text, number in WRITTEN:
            kept = signs(text)
            for place in range(len(kept)):
                for sign in range(256):
                    self.assert_just_as_written(kept[:place] + [sign] + kept[place + 1:])

    def test_each_byte_that_is_none_of_write(self):
        for sign in range(256):
            if sign not in b"-W0123456789":
                for text in ("2026-11-16", "2026-W47-1", "2026-320", "-0001-12-31"):
                    kept = signs(text)
                    for place in range(len(kept)):
                        self.assertEqual(read(kept[:place] + [sign] + kept[place + 1:]), NONE)

    def test_bytes_that_would_make_up_for_one_another(self):
        # As a digit, ":" would be 10 and "/" would be -1.
        self.assert_none("2026-11-0:", "2026-11-0@", "2026-11-2/", "2026-0:-16", "2026-0;-16", "2026-1/-16")
        self.assert_none("202:-11-16", "203/-11-16", "2026-W4:-1", "2026-W5/-1", "2026-W46-8", "2026-W48-/")
        self.assert_none("2026-31:", "2026-32/", "2026-2:0", "2026-0/0", "01:26-320", "1:026-320", "/000-320")

    def test_one_sign_less_or_more(self):
        for text, number in WRITTEN:
            kept = signs(text)
            for place in range(len(kept)):
                self.assert_just_as_written(kept[:place] + kept[place + 1:])
            for place in range(len(kept) + 1):
                for sign in b"-W0123456789":
                    self.assert_just_as_written(kept[:place] + [sign] + kept[place:])

    def test_one_digit_less_or_more(self):
        self.assert_none("226-11-16", "2026-1-16", "2026-11-6", "2026-W4-1", "2026-W47-", "2026-32", "2026-W7-1")
        self.assert_none("2026-111-16", "2026-011-16", "2026-11-160", "2026-11-016", "2026-W471-1", "2026-W047-1")
        self.assert_none("2026-W47-11", "2026-W47-01", "2026-3200", "2026-0320", "02026-320", "02026-11-16")
        self.assertEqual(read(signs("20266-11-16")), day(20266, 11, 16))
        self.assertEqual(read(signs("-12026-11-16")), day(-12026, 11, 16))

    def test_a_sign_ahead_or_behind(self):
        for text, number in WRITTEN:
            for sign in range(256):
                if sign not in b"-123456789":
                    self.assertEqual(read([sign] + signs(text)), NONE)
                self.assertEqual(read(signs(text) + [sign]), NONE)
        self.assert_none("2026-11-16-", "2026-W47-1-", "2026-320-", "--0001-365")
        self.assertEqual(read(signs("-2026-11-16")), day(-2026, 11, 16))


class EachNumber(ReadCase):
    def test_each_year_of_fewer_than_four_digits(self):
        for year in range(1000):
            self.assert_none(f"{year}-001", f"{year:02}-001", f"{year:03}-001", f"{year:03}-01-01", f"{year:03}-W01-1")

    def test_each_number_of_three_digits_behind_a_year(self):
        for year, length in ((2026, 365), (2024, 366), (0, 366)):
            first = day(year, 1, 1)[1]
            for number in range(1000):
                told = [0, first + number - 1] if 1 <= number <= length else NONE
                self.assertEqual(read(signs(f"{year:04}-{number:03}")), told)

    def test_each_month_and_day_of_two_digits(self):
        for year in (2026, 2024, 0):
            for month in range(100):
                for number in range(100):
                    self.assertEqual(read(signs(f"{year:04}-{month:02}-{number:02}")), day(year, month, number))

    def test_each_week_and_day_of_the_week(self):
        for year in (2026, 2024, 0, 999999):
            for week_number in range(100):
                for weekday in range(10):
                    told = from_week(year, week_number, weekday)
                    self.assertEqual(read(signs(f"{year:04}-W{week_number:02}-{weekday}")), told)


if __name__ == "__main__":
    unittest.main()
