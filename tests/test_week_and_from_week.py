import datetime
import unittest

from dayround.desk import civil, day, from_week, week
from bounds import FIRST, LAST
from plain_calendar import is_long

EPOCH = datetime.date(1970, 1, 1).toordinal()

# A year, and the week and day of the week of each day from 29 December before it to 4 January in it.
# For each day of the week with which a year may begin: one after a year that is not long, one after a long year,
# and a long year.
TURNS = (
    (2018, "2017-W52-5 2017-W52-6 2017-W52-7 2018-W01-1 2018-W01-2 2018-W01-3 2018-W01-4"),
    (2001, "2000-W52-5 2000-W52-6 2000-W52-7 2001-W01-1 2001-W01-2 2001-W01-3 2001-W01-4"),
    (2024, "2023-W52-5 2023-W52-6 2023-W52-7 2024-W01-1 2024-W01-2 2024-W01-3 2024-W01-4"),
    (2019, "2018-W52-6 2018-W52-7 2019-W01-1 2019-W01-2 2019-W01-3 2019-W01-4 2019-W01-5"),
    (2013, "2012-W52-6 2012-W52-7 2013-W01-1 2013-W01-2 2013-W01-3 2013-W01-4 2013-W01-5"),
    (2008, "2007-W52-6 2007-W52-7 2008-W01-1 2008-W01-2 2008-W01-3 2008-W01-4 2008-W01-5"),
    (2014, "2013-W52-7 2014-W01-1 2014-W01-2 2014-W01-3 2014-W01-4 2014-W01-5 2014-W01-6"),
    (2025, "2024-W52-7 2025-W01-1 2025-W01-2 2025-W01-3 2025-W01-4 2025-W01-5 2025-W01-6"),
    (2020, "2019-W52-7 2020-W01-1 2020-W01-2 2020-W01-3 2020-W01-4 2020-W01-5 2020-W01-6"),
    (2015, "2015-W01-1 2015-W01-2 2015-W01-3 2015-W01-4 2015-W01-5 2015-W01-6 2015-W01-7"),
    (2009, "2009-W01-1 2009-W01-2 2009-W01-3 2009-W01-4 2009-W01-5 2009-W01-6 2009-W01-7"),
    (2004, "2004-W01-1 2004-W01-2 2004-W01-3 2004-W01-4 2004-W01-5 2004-W01-6 2004-W01-7"),
    (2010, "2009-W53-2 2009-W53-3 2009-W53-4 2009-W53-5 2009-W53-6 2009-W53-7 2010-W01-1"),
    (2021, "2020-W53-2 2020-W53-3 2020-W53-4 2020-W53-5 2020-W53-6 2020-W53-7 2021-W01-1"),
    (2016, "2015-W53-2 2015-W53-3 2015-W53-4 2015-W53-5 2015-W53-6 2015-W53-7 2016-W01-1"),
    (2011, "2010-W52-3 2010-W52-4 2010-W52-5 2010-W52-6 2010-W52-7 2011-W01-1 2011-W01-2"),
    (2005, "2004-W53-3 2004-W53-4 2004-W53-5 2004-W53-6 2004-W53-7 2005-W01-1 2005-W01-2"),
    (2000, "1999-W52-3 1999-W52-4 1999-W52-5 1999-W52-6 1999-W52-7 2000-W01-1 2000-W01-2"),
    (2023, "2022-W52-4 2022-W52-5 2022-W52-6 2022-W52-7 2023-W01-1 2023-W01-2 2023-W01-3"),
    (2017, "2016-W52-4 2016-W52-5 2016-W52-6 2016-W52-7 2017-W01-1 2017-W01-2 2017-W01-3"),
    (2012, "2011-W52-4 2011-W52-5 2011-W52-6 2011-W52-7 2012-W01-1 2012-W01-2 2012-W01-3"),
)


def turns():
    for year, told in TURNS:
        first = datetime.date(year, 1, 1).toordinal() - EPOCH
        for number, text in enumerate(told.split(), start=first - 3):
            week_year, week_number, weekday = text.split("-")
            yield number, (int(week_year), int(week_number[1:]), int(weekday))


class BackAndForth(unittest.TestCase):
    def assert_pair(self, number, told):
        year, week_number, weekday = told
        if week(number) != [0, year, week_number, weekday] or from_week(year, week_number, weekday) != [0, number]:
            self.fail(f"{told} and {number}: week says {week(number)}, from_week says {from_week(*told)}")

    def test_the_turns_begin_with_each_day_of_the_week(self):
        kinds = sorted(
            (datetime.date(year, 1, 1).isoweekday(), is_long(year), is_long(year - 1)) for year, told in TURNS
        )
        expected = []
        for weekday in range(1, 8):
            expected += [(weekday, False, False), (weekday, False, True), (weekday, True, False)]
        self.assertEqual(kinds, expected)

    def test_29_december_to_4_january(self):
        for number, told in turns():
            self.assert_pair(number, told)

    def test_29_december_to_4_january_400_years_on_and_back(self):
        # 146097 days, the days of 400 years, are whole weeks.
        for number, (year, week_number, weekday) in turns():
            for spans in (-2504, -2000, -100, -7, -6, -5, -4, -1, 1, 20, 100, 2000, 2494):
                self.assert_pair(number + spans * 146097, (year + spans * 400, week_number, weekday))

    def test_the_same_as_an_independent_calendar(self):
        for ordinal in range(1, datetime.date.max.toordinal() + 1, 89):
            self.assert_pair(ordinal - EPOCH, tuple(datetime.date.fromordinal(ordinal).isocalendar()))

    def test_every_day_of_400_years_round_1970(self):
        for ordinal in range(EPOCH - 73048, EPOCH + 73049):
            self.assert_pair(ordinal - EPOCH, tuple(datetime.date.fromordinal(ordinal).isocalendar()))

    def test_every_day_of_400_years_round_the_year_0(self):
        for ordinal in range(datetime.date(1800, 1, 1).toordinal(), datetime.date(2200, 1, 1).toordinal() + 1):
            year, week_number, weekday = datetime.date.fromordinal(ordinal).isocalendar()
            self.assert_pair(ordinal - EPOCH - 5 * 146097, (year - 2000, week_number, weekday))

    def test_the_first_and_last_week_of_years_from_first_to_last(self):
        # The first day of the year -999999 is a 1, so its week 1 begins there.
        number = begin = FIRST
        for year in range(-999999, 1000000):
            # A year has 53 weeks if it has 53 days that are a 4.
            fourths = (3 - (number - FIRST)) % 7
            length = 366 if is_long(year) else 365
            weeks = (length - 1 - fourths) // 7 + 1
            if year % 11 == 0:
                self.assert_pair(begin, (year, 1, 1))
                # Of the last week of the year 999999, the 5 is the last that is a day.
                self.assert_pair(begin + 7 * weeks - 3, (year, weeks, 5))
                if from_week(year, weeks + 1, 1) != [-1]:
                    self.fail(f"{year} has {weeks} weeks, but there is a week after that")
            number += length
            begin += 7 * weeks
        self.assertEqual(number, LAST + 1)
        self.assertEqual(begin, LAST + 3)

    def test_every_day_of_the_first_and_the_last_weeks(self):
        for number in range(2000):
            early = week(FIRST + number)
            late = week(LAST - number)
            self.assertEqual(early[3], number % 7 + 1)
            self.assertEqual(late[3], (4 - number) % 7 + 1)
            self.assert_pair(FIRST + number, tuple(early[1:]))
            self.assert_pair(LAST - number, tuple(late[1:]))

    def test_days_spread_from_first_to_last(self):
        for number in range(FIRST, LAST + 1, 9973):
            answer = week(number)
            if answer[0] != 0 or from_week(*answer[1:]) != [0, number]:
                self.fail(f"{number}: week says {answer}, from_week says {from_week(*answer[1:])}")

    def test_the_fourth_of_january_lies_in_week_1_of_its_year(self):
        for year in range(-999999, 1000000, 997):
            number = day(year, 1, 4)[1]
            answer = week(number)
            self.assertEqual(answer[:3], [0, year, 1])
            self.assertEqual(civil(number - answer[3] + 4)[1], year)


if __name__ == "__main__":
    unittest.main()
