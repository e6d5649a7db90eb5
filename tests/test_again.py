import datetime
import unittest

from dayround.desk import again, civil, day
from bounds import FIRST, HIGHEST, HIGHEST_LONG, LAST, LOWEST, LOWEST_LONG, OUT_OF_RANGE

# Units.
DAYS, WEEKS, MONTHS, YEARS = 0, 1, 2, 3
UNITS = (DAYS, WEEKS, MONTHS, YEARS)
JANUARY, FEBRUARY, MARCH, APRIL, JUNE, SEPTEMBER, NOVEMBER, DECEMBER = 1, 2, 4, 8, 32, 256, 1024, 2048
ALL_MONTHS = 4095
ALL_WDAYS = 127
# 16 November 2026 is a 1.
MONDAY = 20773


def date(text):
    return datetime.date.fromisoformat(text).toordinal() - 719163


def dates(texts):
    days = [date(text) for text in texts.split()]
    return [len(days)] + days


def ask(start, unit, step=1, nth=0, wday=1, count=0, months=0, wdays=0, flags=1, until=None, the_from=None, most=4096):
    if until is None:
        until = min(start + 20000, LAST)
    if the_from is None:
        the_from = start
    return again(start, unit, step, nth, wday, count, months, wdays, flags, until, the_from, most)


def ask_2026(unit, start="2026-01-01", until="2026-12-31", **others):
    return ask(date(start), unit, until=date(until), **others)


def answer(days):
    return [len(days)] + list(days)


class EveryStepthDay(unittest.TestCase):
    def test_every_day(self):
        self.assertEqual(ask(MONDAY, DAYS, until=MONDAY + 4), answer(range(MONDAY, MONDAY + 5)))
        self.assertEqual(ask(-2, DAYS, until=2), [5, -2, -1, 0, 1, 2])

    def test_steps(self):
        self.assertEqual(ask(MONDAY, DAYS, step=2, until=MONDAY + 7), answer(range(MONDAY, MONDAY + 8, 2)))
        self.assertEqual(ask(MONDAY, DAYS, step=3, until=MONDAY + 9), answer(range(MONDAY, MONDAY + 10, 3)))
        self.assertEqual(ask(-7, DAYS, step=5, until=5), [3, -7, -2, 3])

    def test_the_greatest_step(self):
        self.assertEqual(ask(MONDAY, DAYS, step=1000), answer(range(MONDAY, MONDAY + 20001, 1000)))
        self.assertEqual(ask(0, DAYS, step=1000, until=999), [1, 0])
        self.assertEqual(ask(0, DAYS, step=1000, until=1000), [2, 0, 1000])

    def test_what_the_unit_does_not_use(self):
        for others in ({"nth": 5}, {"nth": -5, "wday": 7}, {"months": 1}, {"wdays": 64}, {"wday": 3}):
            self.assertEqual(ask(MONDAY, DAYS, step=3, until=MONDAY + 9, **others),
                             answer(range(MONDAY, MONDAY + 10, 3)))


class EveryStepthWeek(unittest.TestCase):
    def test_one_day_of_the_week(self):
        for weekday in range(1, 8):
            with self.subTest(weekday=weekday):
                told = answer(range(MONDAY + weekday - 1, MONDAY + 28, 7))
                self.assertEqual(ask(MONDAY, WEEKS, wdays=2 ** (weekday - 1), until=MONDAY + 27), told)

    def test_several_days_of_the_week(self):
        # The days 1, 3 and 7.
        told = [MONDAY + place for place in (0, 2, 6, 7, 9, 13, 14)]
        self.assertEqual(ask(MONDAY, WEEKS, wdays=69, until=MONDAY + 15), answer(told))

    def test_all_days_of_the_week(self):
        self.assertEqual(ask(MONDAY, WEEKS, wdays=ALL_WDAYS, until=MONDAY + 20), answer(range(MONDAY, MONDAY + 21)))
        self.assertEqual(ask(-3, WEEKS, wdays=ALL_WDAYS, until=3), answer(range(-3, 4)))

    def test_no_day_of_the_week(self):
        self.assertEqual(ask(MONDAY, WEEKS, wdays=0), [0])
        self.assertEqual(ask(MONDAY, WEEKS, wdays=0, count=3), [0])

    def test_steps(self):
        self.assertEqual(ask(MONDAY, WEEKS, step=2, wdays=1, until=MONDAY + 28),
                         answer((MONDAY, MONDAY + 14, MONDAY + 28)))
        self.assertEqual(ask(MONDAY, WEEKS, step=3, wdays=80, until=MONDAY + 49),
                         answer((MONDAY + 4, MONDAY + 6, MONDAY + 25, MONDAY + 27, MONDAY + 46, MONDAY + 48)))
        self.assertEqual(ask(MONDAY, WEEKS, step=1000, wdays=3),
                         answer((MONDAY, MONDAY + 1, MONDAY + 7000, MONDAY + 7001, MONDAY + 14000, MONDAY + 14001)))

    def test_from_the_midst_of_a_week(self):
        # Weeks are counted from the one that start is in, but nothing is given before start.
        thursday = MONDAY + 3
        self.assertEqual(ask(thursday, WEEKS, wdays=1, until=MONDAY + 14), answer((MONDAY + 7, MONDAY + 14)))
        self.assertEqual(ask(thursday, WEEKS, step=2, wdays=1, until=MONDAY + 28), answer((MONDAY + 14, MONDAY + 28)))
        self.assertEqual(ask(thursday, WEEKS, step=2, wdays=9, until=MONDAY + 20),
                         answer((MONDAY + 3, MONDAY + 14, MONDAY + 17)))
        self.assertEqual(ask(thursday, WEEKS, wdays=ALL_WDAYS, until=MONDAY + 8), answer(range(thursday, MONDAY + 9)))
        self.assertEqual(ask(MONDAY + 6, WEEKS, step=2, wdays=ALL_WDAYS, until=MONDAY + 15),
                         answer((MONDAY + 6, MONDAY + 14, MONDAY + 15)))

    def test_days_before_start_are_none_of_the_count(self):
        self.assertEqual(ask(MONDAY + 3, WEEKS, wdays=ALL_WDAYS, count=3), answer(range(MONDAY + 3, MONDAY + 6)))
        self.assertEqual(ask(MONDAY + 3, WEEKS, wdays=1, count=1, the_from=MONDAY), [1, MONDAY + 7])

    def test_about_day_0(self):
        # Day 0 is a 4.
        self.assertEqual(ask(-1, WEEKS, wdays=8, until=14), [3, 0, 7, 14])
        self.assertEqual(ask(1, WEEKS, wdays=8, until=14), [2, 7, 14])
        self.assertEqual(ask(-15, WEEKS, step=2, wdays=9, until=11), [4, -14, -3, 0, 11])


class EveryStepthMonth(unittest.TestCase):
    def test_the_day_of_the_month(self):
        self.assertEqual(ask_2026(MONTHS, "2026-09-16", "2027-02-16"),
                         dates("2026-09-16 2026-10-16 2026-11-16 2026-12-16 2027-01-16 2027-02-16"))
        self.assertEqual(ask_2026(MONTHS, "1969-11-30", "1970-03-30"),
                         dates("1969-11-30 1969-12-30 1970-01-30 1970-03-30"))

    def test_steps(self):
        self.assertEqual(ask_2026(MONTHS, "2026-09-16", "2027-09-30", step=5),
                         dates("2026-09-16 2027-02-16 2027-07-16"))
        self.assertEqual(ask_2026(MONTHS, "2026-09-16", "2028-09-16", step=12),
                         dates("2026-09-16 2027-09-16 2028-09-16"))
        # 1000 months are 83 years and 4 months, more than 20000 days.
        self.assertEqual(ask_2026(MONTHS, "2026-09-16", "2081-06-01", step=1000), dates("2026-09-16"))

    def test_the_29th(self):
        self.assertEqual(ask_2026(MONTHS, "2026-01-29", "2026-04-29"), dates("2026-01-29 2026-03-29 2026-04-29"))
        self.assertEqual(ask_2026(MONTHS, "2024-01-29", "2024-04-29"),
                         dates("2024-01-29 2024-02-29 2024-03-29 2024-04-29"))
        self.assertEqual(ask_2026(MONTHS, "2000-01-29", "2000-03-01"), dates("2000-01-29 2000-02-29"))
        self.assertEqual(ask_2026(MONTHS, "1900-01-29", "1900-03-01"), dates("1900-01-29"))

    def test_the_30th(self):
        self.assertEqual(ask_2026(MONTHS, "2026-01-30", "2026-04-30"), dates("2026-01-30 2026-03-30 2026-04-30"))
        self.assertEqual(ask_2026(MONTHS, "2024-01-30", "2024-03-30"), dates("2024-01-30 2024-03-30"))

    def test_the_31st(self):
        self.assertEqual(ask_2026(MONTHS, "2026-01-31"), dates(
            "2026-01-31 2026-03-31 2026-05-31 2026-07-31 2026-08-31 2026-10-31 2026-12-31"))
        self.assertEqual(ask_2026(MONTHS, "2026-01-31", step=3), dates("2026-01-31 2026-07-31 2026-10-31"))
        # February, April and June have no 31st; no other day is given in its place.
        self.assertEqual(ask_2026(MONTHS, "2026-08-31", "2027-08-31", step=2),
                         dates("2026-08-31 2026-10-31 2026-12-31 2027-08-31"))
        self.assertEqual(ask_2026(MONTHS, "2026-01-31", count=3), dates("2026-01-31 2026-03-31 2026-05-31"))

    def test_some_months(self):
        self.assertEqual(ask_2026(MONTHS, "2026-01-16", "2027-03-31", months=JANUARY + NOVEMBER + DECEMBER),
                         dates("2026-01-16 2026-11-16 2026-12-16 2027-01-16"))
        self.assertEqual(ask_2026(MONTHS, "2026-03-31", "2027-03-31", months=FEBRUARY + APRIL + JUNE), [0])
        self.assertEqual(ask_2026(MONTHS, "2026-01-29", "2028-12-31", months=FEBRUARY), dates("2028-02-29"))
        for months in (0, ALL_MONTHS):
            self.assertEqual(ask_2026(MONTHS, months=months), dates(" ".join(f"2026-{m:02}-01" for m in range(1, 13))))

    def test_each_month_alone(self):
        for month in range(1, 13):
            self.assertEqual(ask_2026(MONTHS, "2026-01-28", "2027-12-31", months=2 ** (month - 1)),
                             dates(f"2026-{month:02}-28 2027-{month:02}-28"))

    def test_start_in_a_month_that_is_none_of_them(self):
        self.assertEqual(ask_2026(MONTHS, "2026-11-16", "2028-12-31", months=MARCH), dates("2027-03-16 2028-03-16"))

    def test_steps_are_counted_over_all_months(self):
        # From January on by threes come April, July and October: March is never among them.
        self.assertEqual(ask_2026(MONTHS, "2026-01-16", "2030-12-31", step=3, months=MARCH), [0])
        self.assertEqual(ask_2026(MONTHS, "2026-01-16", "2027-12-31", step=3, months=MARCH + APRIL),
                         dates("2026-04-16 2027-04-16"))
        self.assertEqual(ask_2026(MONTHS, "2026-01-16", "2028-12-31", step=5, months=JANUARY + NOVEMBER + JUNE),
                         dates("2026-01-16 2026-06-16 2026-11-16"))

    def test_before_the_year_0(self):
        start = day(-1, 11, 30)[1]
        told = [day(*parts)[1] for parts in ((-1, 11, 30), (-1, 12, 30), (0, 1, 30), (0, 3, 30))]
        self.assertEqual(ask(start, MONTHS, until=day(0, 3, 31)[1]), answer(told))
        told = [day(*parts)[1] for parts in ((-1, 11, 29), (-1, 12, 29), (0, 1, 29), (0, 2, 29), (0, 3, 29))]
        self.assertEqual(ask(start - 1, MONTHS, until=day(0, 3, 31)[1]), answer(told))


class NthDayOfTheWeek(unittest.TestCase):
    def test_the_first(self):
        self.assertEqual(ask_2026(MONTHS, nth=1, wday=4), dates(
            "2026-01-01 2026-02-05 2026-03-05 2026-04-02 2026-05-07 2026-06-04 "
            "2026-07-02 2026-08-06 2026-09-03 2026-10-01 2026-11-05 2026-12-03"))
        self.assertEqual(ask_2026(MONTHS, nth=1, wday=7, until="2026-03-31"), dates("2026-01-04 2026-02-01 2026-03-01"))

    def test_the_second(self):
        self.assertEqual(ask_2026(MONTHS, nth=2, wday=2), dates(
            "2026-01-13 2026-02-10 2026-03-10 2026-04-14 2026-05-12 2026-06-09 "
            "2026-07-14 2026-08-11 2026-09-08 2026-10-13 2026-11-10 2026-12-08"))

    def test_the_third_and_the_fourth(self):
        self.assertEqual(ask_2026(MONTHS, nth=3, wday=3, until="2026-04-30"),
                         dates("2026-01-21 2026-02-18 2026-03-18 2026-04-15"))
        self.assertEqual(ask_2026(MONTHS, nth=4, wday=6, until="2026-04-30"),
                         dates("2026-01-24 2026-02-28 2026-03-28 2026-04-25"))

    def test_the_fifth_where_there_is_one(self):
        self.assertEqual(ask_2026(MONTHS, nth=5, wday=5), dates("2026-01-30 2026-05-29 2026-07-31 2026-10-30"))
        self.assertEqual(ask_2026(MONTHS, "2024-01-01", "2024-03-31", nth=5, wday=4), dates("2024-02-29"))
        self.assertEqual(ask_2026(MONTHS, "2026-02-01", "2026-02-28", nth=5, wday=7), [0])

    def test_the_last(self):
        self.assertEqual(ask_2026(MONTHS, nth=-1, wday=5), dates(
            "2026-01-30 2026-02-27 2026-03-27 2026-04-24 2026-05-29 2026-06-26 "
            "2026-07-31 2026-08-28 2026-09-25 2026-10-30 2026-11-27 2026-12-25"))

    def test_the_last_but_so_many(self):
        self.assertEqual(ask_2026(MONTHS, nth=-2, wday=5, until="2026-05-31"),
                         dates("2026-01-23 2026-02-20 2026-03-20 2026-04-17 2026-05-22"))
        self.assertEqual(ask_2026(MONTHS, nth=-3, wday=5, until="2026-05-31"),
                         dates("2026-01-16 2026-02-13 2026-03-13 2026-04-10 2026-05-15"))
        self.assertEqual(ask_2026(MONTHS, nth=-4, wday=5, until="2026-05-31"),
                         dates("2026-01-09 2026-02-06 2026-03-06 2026-04-03 2026-05-08"))
        self.assertEqual(ask_2026(MONTHS, nth=-5, wday=5), dates("2026-01-02 2026-05-01 2026-07-03 2026-10-02"))

    def test_a_february_of_four_weeks(self):
        # 1 February 2026 is a 7, 28 February a 6.
        for nth in range(1, 5):
            for weekday in range(1, 8):
                told = [1, date("2026-02-01") + 7 * (nth - 1) + weekday % 7]
                asked = {"start": "2026-02-01", "until": "2026-02-28", "wday": weekday}
                self.assertEqual(ask_2026(MONTHS, nth=nth, **asked), told)
                self.assertEqual(ask_2026(MONTHS, nth=nth - 5, **asked), told)
                self.assertEqual(ask_2026(MONTHS, nth=5, **asked), [0])
                self.assertEqual(ask_2026(MONTHS, nth=-5, **asked), [0])

    def test_each_nth_of_each_day_of_the_week_in_a_month(self):
        # October 2026 has 31 days and begins with a 4: the days 4, 5 and 6 come five times.
        first = date("2026-10-01")
        for weekday in range(1, 8):
            days = [number for number in range(first, first + 31) if (number - MONDAY) % 7 + 1 == weekday]
            self.assertEqual(len(days), 5 if weekday in (4, 5, 6) else 4)
            for nth in range(1, 6):
                asked = {"start": "2026-10-01", "until": "2026-10-31", "wday": weekday}
                self.assertEqual(ask_2026(MONTHS, nth=nth, **asked), answer(days[nth - 1:nth]))
                self.assertEqual(ask_2026(MONTHS, nth=-nth, **asked), answer(days[::-1][nth - 1:nth]))

    def test_nothing_before_start(self):
        self.assertEqual(ask_2026(MONTHS, "2026-01-14", "2026-03-31", nth=2, wday=2), dates("2026-02-10 2026-03-10"))
        self.assertEqual(ask_2026(MONTHS, "2026-01-13", "2026-02-28", nth=2, wday=2), dates("2026-01-13 2026-02-10"))
        self.assertEqual(ask_2026(MONTHS, "2026-01-14", "2026-12-31", nth=2, wday=2, step=6), dates("2026-07-14"))
        self.assertEqual(ask_2026(MONTHS, "2026-01-14", nth=2, wday=2, count=2), dates("2026-02-10 2026-03-10"))

    def test_the_day_of_the_month_of_start_does_not_matter(self):
        self.assertEqual(ask_2026(MONTHS, "2026-01-31", "2026-04-30", nth=-1, wday=1),
                         dates("2026-02-23 2026-03-30 2026-04-27"))

    def test_steps_and_some_months(self):
        self.assertEqual(ask_2026(MONTHS, nth=1, wday=1, months=MARCH + JUNE + SEPTEMBER + DECEMBER),
                         dates("2026-03-02 2026-06-01 2026-09-07 2026-12-07"))
        self.assertEqual(ask_2026(MONTHS, nth=1, wday=1, step=4, months=MARCH + JUNE + SEPTEMBER),
                         dates("2026-09-07"))


class EveryStepthYear(unittest.TestCase):
    def test_the_day_of_start(self):
        self.assertEqual(ask_2026(YEARS, "2026-11-16", "2029-11-16"),
                         dates("2026-11-16 2027-11-16 2028-11-16 2029-11-16"))
        self.assertEqual(ask_2026(YEARS, "1968-03-31", "1971-12-31"),
                         dates("1968-03-31 1969-03-31 1970-03-31 1971-03-31"))

    def test_steps(self):
        self.assertEqual(ask_2026(YEARS, "2026-11-16", "2040-01-01", step=5), dates("2026-11-16 2031-11-16 2036-11-16"))
        self.assertEqual(ask_2026(YEARS, "2026-11-16", "2081-01-01", step=1000), dates("2026-11-16"))

    def test_from_29_february(self):
        self.assertEqual(ask_2026(YEARS, "2024-02-29", "2040-12-31"),
                         dates("2024-02-29 2028-02-29 2032-02-29 2036-02-29 2040-02-29"))
        self.assertEqual(ask_2026(YEARS, "2024-02-29", "2060-12-31", step=3),
                         dates("2024-02-29 2036-02-29 2048-02-29 2060-02-29"))
        self.assertEqual(ask_2026(YEARS, "1896-02-29", "1908-12-31"), dates("1896-02-29 1904-02-29 1908-02-29"))
        self.assertEqual(ask_2026(YEARS, "2024-02-29", count=2, until="2060-12-31"), dates("2024-02-29 2028-02-29"))
        self.assertEqual(ask_2026(YEARS, "2024-02-29", "2027-12-31", months=FEBRUARY + MARCH),
                         dates("2024-02-29 2024-03-29 2025-03-29 2026-03-29 2027-03-29"))

    def test_from_29_february_of_the_year_0(self):
        told = [day(year, 2, 29)[1] for year in (-4, 0, 4, 8)]
        self.assertEqual(ask(told[0], YEARS, until=told[-1]), answer(told))

    def test_some_months(self):
        self.assertEqual(ask_2026(YEARS, "2026-06-30", "2027-12-31", months=FEBRUARY + JUNE + NOVEMBER),
                         dates("2026-06-30 2026-11-30 2027-06-30 2027-11-30"))
        # In start's year March is over; in the years after it it isn't.
        self.assertEqual(ask_2026(YEARS, "2026-11-16", "2028-12-31", months=MARCH + DECEMBER),
                         dates("2026-12-16 2027-03-16 2027-12-16 2028-03-16 2028-12-16"))
        self.assertEqual(ask_2026(YEARS, "2026-11-16", "2031-12-31", step=2, months=MARCH),
                         dates("2028-03-16 2030-03-16"))
        self.assertEqual(ask_2026(YEARS, months=ALL_MONTHS), dates(" ".join(f"2026-{m:02}-01" for m in range(1, 13))))

    def test_months_0_is_the_month_of_start_alone(self):
        for month in range(1, 13):
            start = f"2026-{month:02}-15"
            self.assertEqual(ask_2026(YEARS, start, "2027-12-31"), dates(f"{start} 2027-{month:02}-15"))
            self.assertEqual(ask_2026(YEARS, start, "2027-12-31", months=2 ** (month - 1)),
                             dates(f"{start} 2027-{month:02}-15"))

    def test_the_nth_day_of_the_week(self):
        # The fourth 4 of November, the last 1 of May, the first 7 of some months.
        self.assertEqual(ask_2026(YEARS, "2026-11-01", "2029-12-31", nth=4, wday=4),
                         dates("2026-11-26 2027-11-25 2028-11-23 2029-11-22"))
        self.assertEqual(ask_2026(YEARS, "2026-05-01", "2028-12-31", nth=-1, wday=1),
                         dates("2026-05-25 2027-05-31 2028-05-29"))
        self.assertEqual(ask_2026(YEARS, "2026-11-16", "2027-12-31", nth=1, wday=7, months=JANUARY + NOVEMBER),
                         dates("2027-01-03 2027-11-07"))

    def test_the_fifth_where_there_is_one(self):
        # Of these Februaries only that of 2032 has the day 7 five times.
        self.assertEqual(ask_2026(YEARS, "2026-02-01", "2040-12-31", nth=5, wday=7), dates("2032-02-29"))
        self.assertEqual(ask_2026(YEARS, "2026-02-01", "2040-12-31", nth=-5, wday=7), dates("2032-02-01"))

    def test_nothing_before_start(self):
        self.assertEqual(ask_2026(YEARS, "2026-11-27", "2027-12-31", nth=4, wday=4), dates("2027-11-25"))
        self.assertEqual(ask_2026(YEARS, "2026-11-27", "2027-12-31", nth=4, wday=4, count=1), dates("2027-11-25"))


class FromAndUntil(unittest.TestCase):
    # Rules of each unit that give every day from start on, or one a month or a year.
    RULES = (
        {"unit": DAYS}, {"unit": DAYS, "step": 7}, {"unit": WEEKS, "wdays": 1}, {"unit": WEEKS, "wdays": ALL_WDAYS},
        {"unit": MONTHS}, {"unit": MONTHS, "nth": 3, "wday": 1}, {"unit": YEARS}, {"unit": YEARS, "months": ALL_MONTHS},
    )

    def test_from_before_start_at_it_and_behind_it(self):
        for rule in self.RULES:
            whole = ask(MONDAY, until=MONDAY + 1500, **rule)[1:]
            self.assertEqual(whole[0], MONDAY)
            for the_from in (FIRST, MONDAY - 1, MONDAY, MONDAY + 1, MONDAY + 100, whole[-1], whole[-1] + 1, LAST):
                told = [number for number in whole if number >= the_from]
                self.assertEqual(ask(MONDAY, until=MONDAY + 1500, the_from=the_from, **rule), answer(told))

    def test_from_behind_until(self):
        for rule in self.RULES:
            self.assertEqual(ask(MONDAY, until=MONDAY + 1500, the_from=MONDAY + 1501, **rule), [0])
            self.assertEqual(ask(MONDAY, until=MONDAY, the_from=MONDAY + 1, **rule), [0])

    def test_until_before_start(self):
        for rule in self.RULES:
            for until in (MONDAY - 1, MONDAY - 365, 0, FIRST):
                self.assertEqual(ask(MONDAY, until=until, **rule), [0])
                self.assertEqual(ask(MONDAY, until=until, the_from=until, **rule), [0])

    def test_until_at_start(self):
        for rule in self.RULES:
            self.assertEqual(ask(MONDAY, until=MONDAY, **rule), [1, MONDAY])
        self.assertEqual(ask(MONDAY, WEEKS, wdays=126, until=MONDAY), [0])
        self.assertEqual(ask(MONDAY, MONTHS, nth=4, wday=1, until=MONDAY), [0])

    def test_until_on_a_day_that_is_given_and_a_day_before(self):
        for rule in self.RULES:
            whole = ask(MONDAY, until=MONDAY + 1500, **rule)[1:]
            for place in (1, 2, 3):
                self.assertEqual(ask(MONDAY, until=whole[place], **rule), answer(whole[:place + 1]))
                self.assertEqual(ask(MONDAY, until=whole[place] - 1, **rule), answer(whole[:place]))

    def test_until_20000_above_start(self):
        self.assertEqual(ask(MONDAY, DAYS, step=20, until=MONDAY + 20000), answer(range(MONDAY, MONDAY + 20001, 20)))
        self.assertEqual(ask(MONDAY, DAYS, step=20, until=MONDAY + 19999), answer(range(MONDAY, MONDAY + 20000, 20)))
        self.assertEqual(ask(MONDAY, WEEKS, wdays=2, until=MONDAY + 20000),
                         answer(range(MONDAY + 1, MONDAY + 20001, 7)))
        self.assertEqual(ask(MONDAY, MONTHS, until=MONDAY + 20000)[0], 658)
        self.assertEqual(ask(MONDAY, YEARS, until=MONDAY + 20000)[0], 55)
        self.assertEqual(ask(MONDAY, DAYS, until=MONDAY + 20000, the_from=MONDAY + 20000), [1, MONDAY + 20000])


class Count(unittest.TestCase):
    def test_ends_before_until(self):
        self.assertEqual(ask(MONDAY, DAYS, step=2, count=3, until=MONDAY + 100), answer(range(MONDAY, MONDAY + 6, 2)))
        self.assertEqual(ask(MONDAY, DAYS, count=1), [1, MONDAY])
        self.assertEqual(ask(MONDAY, WEEKS, wdays=17, count=3), answer((MONDAY, MONDAY + 4, MONDAY + 7)))
        self.assertEqual(ask_2026(MONTHS, "2026-01-31", count=2), dates("2026-01-31 2026-03-31"))
        self.assertEqual(ask_2026(YEARS, "2026-11-16", "2040-12-31", count=2), dates("2026-11-16 2027-11-16"))
        self.assertEqual(ask_2026(YEARS, "2026-11-16", "2040-12-31", count=2, months=ALL_MONTHS),
                         dates("2026-11-16 2026-12-16"))

    def test_ends_at_until_and_behind_it(self):
        for count in (5, 6, 7, 1000, 1000000):
            self.assertEqual(ask(MONDAY, DAYS, count=count, until=MONDAY + 4), answer(range(MONDAY, MONDAY + 5)))
        self.assertEqual(ask(MONDAY, DAYS, count=4, until=MONDAY + 4), answer(range(MONDAY, MONDAY + 4)))

    def test_0_is_no_end(self):
        self.assertEqual(ask(MONDAY, DAYS, step=10, count=0)[0], 2001)

    def test_is_counted_from_start_not_from_the_from(self):
        self.assertEqual(ask(MONDAY, DAYS, count=5, the_from=MONDAY + 3), answer((MONDAY + 3, MONDAY + 4)))
        self.assertEqual(ask(MONDAY, DAYS, count=5, the_from=MONDAY + 4), [1, MONDAY + 4])
        self.assertEqual(ask(MONDAY, DAYS, count=5, the_from=MONDAY + 5), [0])
        self.assertEqual(ask(MONDAY, DAYS, step=3, count=5, the_from=MONDAY + 10), [1, MONDAY + 12])
        self.assertEqual(ask(MONDAY, WEEKS, wdays=3, count=3, the_from=MONDAY + 2), [1, MONDAY + 7])
        self.assertEqual(ask_2026(MONTHS, "2026-01-31", count=3, the_from=date("2026-04-01")), dates("2026-05-31"))
        self.assertEqual(ask_2026(YEARS, "2024-02-29", "2060-01-01", count=3, the_from=date("2030-01-01")),
                         dates("2032-02-29"))

    def test_from_before_start_adds_none(self):
        self.assertEqual(ask(MONDAY, DAYS, count=2, the_from=FIRST), answer((MONDAY, MONDAY + 1)))

    def test_with_most(self):
        self.assertEqual(ask(MONDAY, DAYS, count=5, most=3), answer(range(MONDAY, MONDAY + 3)))
        self.assertEqual(ask(MONDAY, DAYS, count=3, most=5), answer(range(MONDAY, MONDAY + 3)))
        self.assertEqual(ask(MONDAY, DAYS, count=5, most=3, the_from=MONDAY + 3), answer((MONDAY + 3, MONDAY + 4)))

    def test_the_greatest(self):
        self.assertEqual(ask(MONDAY, DAYS, count=1000000)[0], 4096)
        self.assertEqual(ask(MONDAY, DAYS, count=999999, until=MONDAY + 1), [2, MONDAY, MONDAY + 1])


class Most(unittest.TestCase):
    def test_none_at_all(self):
        for rule in FromAndUntil.RULES:
            self.assertEqual(ask(MONDAY, most=0, **rule), [0])

    def test_fewer_than_are_given_as_many_and_more(self):
        for rule in FromAndUntil.RULES:
            whole = ask(MONDAY, until=MONDAY + 1500, **rule)[1:]
            for most in (1, 2, len(whole) - 1, len(whole), len(whole) + 1):
                self.assertEqual(ask(MONDAY, until=MONDAY + 1500, most=most, **rule), answer(whole[:most]))

    def test_the_first_of_those_from_the_from_on(self):
        self.assertEqual(ask(MONDAY, DAYS, the_from=MONDAY + 10, most=2), answer((MONDAY + 10, MONDAY + 11)))
        self.assertEqual(ask(MONDAY, WEEKS, wdays=5, the_from=MONDAY + 1, most=2), answer((MONDAY + 2, MONDAY + 7)))

    def test_4096(self):
        self.assertEqual(ask(MONDAY, DAYS, most=4096), answer(range(MONDAY, MONDAY + 4096)))
        self.assertEqual(ask(MONDAY, DAYS, most=4095), answer(range(MONDAY, MONDAY + 4095)))
        self.assertEqual(ask(MONDAY, WEEKS, wdays=ALL_WDAYS, most=4096), answer(range(MONDAY, MONDAY + 4096)))
        self.assertEqual(ask(MONDAY, DAYS, most=4096, until=MONDAY + 4095), answer(range(MONDAY, MONDAY + 4096)))
        self.assertEqual(ask(MONDAY, DAYS, most=4096, until=MONDAY + 4094), answer(range(MONDAY, MONDAY + 4095)))


class FirstAndLast(unittest.TestCase):
    # FIRST is a 1, LAST a 5.
    def test_from_first(self):
        self.assertEqual(ask(FIRST, DAYS, step=1000, until=FIRST + 2000), answer((FIRST, FIRST + 1000, FIRST + 2000)))
        self.assertEqual(ask(FIRST, WEEKS, wdays=65, until=FIRST + 7), answer((FIRST, FIRST + 6, FIRST + 7)))
        self.assertEqual(ask(FIRST + 3, WEEKS, wdays=65, until=FIRST + 7), answer((FIRST + 6, FIRST + 7)))
        self.assertEqual(ask(FIRST, MONTHS, until=FIRST + 59), answer((FIRST, FIRST + 31, FIRST + 59)))
        self.assertEqual(ask(FIRST, MONTHS, nth=-1, wday=7, until=FIRST + 30), [1, FIRST + 27])
        self.assertEqual(ask(FIRST, YEARS, until=FIRST + 730), answer((FIRST, FIRST + 365, FIRST + 730)))

    def test_first_alone(self):
        for rule in FromAndUntil.RULES:
            if "nth" not in rule:
                self.assertEqual(ask(FIRST, until=FIRST, the_from=FIRST, **rule), [1, FIRST])
                self.assertEqual(ask(FIRST + 1, until=FIRST, the_from=FIRST, **rule), [0])

    def test_near_last(self):
        self.assertEqual(ask(LAST - 5, DAYS, step=2), answer((LAST - 5, LAST - 3, LAST - 1)))
        self.assertEqual(ask(LAST - 1000, DAYS, step=1000), answer((LAST - 1000, LAST)))
        self.assertEqual(ask(LAST - 999, DAYS, step=1000), [1, LAST - 999])
        self.assertEqual(ask(LAST - 4, WEEKS, wdays=ALL_WDAYS), answer(range(LAST - 4, LAST + 1)))
        self.assertEqual(ask(LAST - 4, WEEKS, wdays=96), [0])
        self.assertEqual(ask(LAST - 11, WEEKS, wdays=96), answer((LAST - 6, LAST - 5)))
        self.assertEqual(ask(LAST - 30, MONTHS), [1, LAST - 30])
        self.assertEqual(ask(LAST - 60, MONTHS), answer((LAST - 60, LAST - 30)))
        self.assertEqual(ask(LAST - 61, MONTHS), answer((LAST - 61, LAST)))
        self.assertEqual(ask(LAST - 30, MONTHS, nth=-1, wday=5), [1, LAST])
        self.assertEqual(ask(LAST - 30, MONTHS, nth=-1, wday=6), [1, LAST - 6])
        self.assertEqual(ask(LAST - 364, YEARS), [1, LAST - 364])
        self.assertEqual(ask(LAST - 364, YEARS, months=DECEMBER), [1, LAST - 30])
        self.assertEqual(ask(LAST - 365, YEARS), answer((LAST - 365, LAST)))

    def test_last_alone(self):
        for unit in (DAYS, MONTHS, YEARS):
            self.assertEqual(ask(LAST, unit, until=LAST, the_from=LAST), [1, LAST])
            self.assertEqual(ask(LAST, unit, step=1000, until=LAST, the_from=FIRST), [1, LAST])
        self.assertEqual(ask(LAST, WEEKS, wdays=16, until=LAST, the_from=LAST), [1, LAST])
        self.assertEqual(ask(LAST, WEEKS, wdays=ALL_WDAYS, until=LAST, the_from=LAST), [1, LAST])
        self.assertEqual(ask(LAST, WEEKS, wdays=ALL_WDAYS - 16, until=LAST, the_from=LAST), [0])

    def test_start_last_and_until_first(self):
        for unit in UNITS:
            self.assertEqual(ask(LAST, unit, wdays=ALL_WDAYS, until=FIRST, the_from=FIRST), [0])


class NoUntil(unittest.TestCase):
    def test_until_is_not_looked_at_where_flags_is_0(self):
        for until in (LOWEST_LONG, FIRST - 1, FIRST, 0, MONDAY - 1, LAST, LAST + 1, HIGHEST_LONG):
            self.assertEqual(ask(MONDAY, DAYS, flags=0, until=until, most=3), answer(range(MONDAY, MONDAY + 3)))
            self.assertEqual(ask(MONDAY, WEEKS, wdays=1, flags=0, until=until, count=2), [2, MONDAY, MONDAY + 7])

    def test_days_after_last_are_not_given(self):
        for until in (0, LAST, LAST + 1000, HIGHEST_LONG):
            last_days = answer(range(LAST - 3, LAST + 1))
            self.assertEqual(ask(LAST - 3, DAYS, flags=0, until=until), last_days)
            self.assertEqual(ask(LAST - 3, WEEKS, wdays=ALL_WDAYS, flags=0, until=until), last_days)
            self.assertEqual(ask(LAST - 60, MONTHS, flags=0, until=until), answer((LAST - 60, LAST - 30)))
            self.assertEqual(ask(LAST - 364, YEARS, flags=0, until=until), [1, LAST - 364])


class WrongInputs(unittest.TestCase):
    RIGHT = {
        "start": MONDAY, "unit": 0, "step": 1, "nth": 0, "wday": 1, "count": 0, "months": 0, "wdays": 0, "flags": 1,
        "until": MONDAY + 30, "the_from": MONDAY, "most": 10,
    }
    WRONG = {
        "start": (FIRST - 1, LAST + 1, FIRST - 1000, LAST + 1000, LOWEST_LONG, HIGHEST_LONG),
        "unit": (-1, 4, LOWEST, HIGHEST),
        "step": (0, -1, 1001, LOWEST, HIGHEST),
        "nth": (-6, 6, LOWEST, HIGHEST),
        "wday": (0, 8, -1, LOWEST, HIGHEST),
        "count": (-1, 1000001, LOWEST, HIGHEST),
        "months": (4096, 8192, 65535),
        "wdays": (128, 255),
        "flags": (2, 3, 255),
        "until": (FIRST - 1, LAST + 1, LOWEST_LONG, HIGHEST_LONG),
        "the_from": (FIRST - 1, LAST + 1, LOWEST_LONG, HIGHEST_LONG),
        "most": (-1, 4097, LOWEST, HIGHEST),
    }
    ENDS = {
        "start": (FIRST, LAST), "unit": (0, 3), "step": (1, 1000), "nth": (-5, 5), "wday": (1, 7),
        "count": (0, 1000000), "months": (0, 4095), "wdays": (0, 127), "flags": (1,), "until": (FIRST, LAST),
        "the_from": (FIRST, LAST), "most": (0, 4096),
    }

    def test_what_is_right(self):
        for unit in UNITS:
            self.assertNotEqual(again(**{**self.RIGHT, "unit": unit}), OUT_OF_RANGE)

    def test_each_wrong_alone_in_each_unit(self):
        for name, values in self.WRONG.items():
            for value in values:
                for unit in UNITS:
                    with self.subTest(name=name, value=value, unit=unit):
                        self.assertEqual(again(**{**self.RIGHT, "unit": unit, name: value}), OUT_OF_RANGE)

    def test_the_ends_of_the_ranges_are_right(self):
        for name, values in self.ENDS.items():
            for value in values:
                for unit in UNITS:
                    arguments = {**self.RIGHT, "unit": unit, name: value}
                    # What is asked has an until at most 20000 above start.
                    arguments["until"] = min(arguments["until"], arguments["start"] + 20000)
                    with self.subTest(name=name, value=value, unit=unit):
                        self.assertGreaterEqual(again(**arguments)[0], 0)

    def test_two_at_once(self):
        for name, values in self.WRONG.items():
            for other, others in self.WRONG.items():
                self.assertEqual(again(**{**self.RIGHT, name: values[0], other: others[-1]}), OUT_OF_RANGE)

    def test_all_at_once(self):
        self.assertEqual(again(**{name: values[0] for name, values in self.WRONG.items()}), OUT_OF_RANGE)
        self.assertEqual(again(**{name: values[-1] for name, values in self.WRONG.items()}), OUT_OF_RANGE)

    def test_where_nothing_would_be_given(self):
        for name, values in self.WRONG.items():
            for nothing in ({"most": 0}, {"until": MONDAY - 1}, {"the_from": LAST}):
                self.assertEqual(again(**{**self.RIGHT, **nothing, name: values[0]}), OUT_OF_RANGE)

    def test_months_of_more_bits_that_have_right_ones_too(self):
        for months in (4096 + 1024, 8192 + 4095, 65535):
            for unit in UNITS:
                self.assertEqual(again(**{**self.RIGHT, "unit": unit, "months": months}), OUT_OF_RANGE)
        for wdays in (128 + 1, 255):
            for unit in UNITS:
                self.assertEqual(again(**{**self.RIGHT, "unit": unit, "wdays": wdays}), OUT_OF_RANGE)

    def test_flags_with_other_bits_than_1(self):
        for flags in (2, 3, 128, 129, 254, 255):
            for until in (MONDAY + 30, LAST + 1, MONDAY - 1):
                self.assertEqual(again(**{**self.RIGHT, "flags": flags, "until": until}), OUT_OF_RANGE)


class Answers(unittest.TestCase):
    def test_the_days_rise_and_lie_in_bounds(self):
        for rule in FromAndUntil.RULES:
            days = ask(MONDAY - 3, until=MONDAY + 3000, the_from=MONDAY + 5, **rule)[1:]
            self.assertTrue(all(one < other for one, other in zip(days, days[1:])))
            self.assertTrue(all(MONDAY + 5 <= number <= MONDAY + 3000 for number in days))

    def test_the_day_of_the_month_is_that_of_start(self):
        for start in range(MONDAY, MONDAY + 60):
            days = ask(start, MONTHS, until=start + 3000)[1:]
            self.assertEqual({civil(number)[3] for number in days}, {civil(start)[3]})


if __name__ == "__main__":
    unittest.main()
