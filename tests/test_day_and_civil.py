import datetime
import unittest

from dayround.desk import civil, day
from bounds import FIRST, LAST
from plain_calendar import length_of_month

EPOCH = datetime.date(1970, 1, 1).toordinal()


def dates_from(year):
    while True:
        for month in range(1, 13):
            for number in range(1, length_of_month(year, month) + 1):
                yield year, month, number
        year += 1


class BackAndForth(unittest.TestCase):
    def assert_pair(self, number, date):
        year, month, day_of_month = date
        if day(year, month, day_of_month) != [0, number] or civil(number) != [0, year, month, day_of_month]:
            self.fail(f"{date} and {number}: day says {day(*date)}, civil says {civil(number)}")

    def walk(self, year, number, days):
        for date in dates_from(year):
            if days == 0:
                break
            self.assert_pair(number, date)
            number += 1
            days -= 1
        return number

    def test_every_day_of_some_400_years_round_the_year_0(self):
        self.walk(-204, -794037, 149018)

    def test_every_day_of_some_400_years_round_1970(self):
        self.walk(1770, -73048, 146097 + 1461)

    def test_every_day_of_the_first_years(self):
        self.walk(-999999, FIRST, 4000)

    def test_every_day_of_the_last_years(self):
        # 999990 to 999999 hold the long years 999992 and 999996.
        self.assertEqual(self.walk(999990, LAST - 3652 + 1, 3652), LAST + 1)

    def test_the_same_as_an_independent_calendar(self):
        for ordinal in range(1, datetime.date.max.toordinal() + 1, 97):
            date = datetime.date.fromordinal(ordinal)
            self.assert_pair(ordinal - EPOCH, (date.year, date.month, date.day))

    def test_400_years_on_the_same_dates_come_again(self):
        for ordinal in range(1, 146098, 1009):
            date = datetime.date.fromordinal(ordinal)
            for spans in range(-2500, 2500, 37):
                self.assert_pair(
                    ordinal - EPOCH + spans * 146097, (date.year + spans * 400, date.month, date.day)
                )

    def test_the_first_and_last_day_of_years_from_first_to_last(self):
        number = FIRST
        for year in range(-999999, 1000000):
            length = 337 + length_of_month(year, 2)
            if year % 11 == 0:
                self.assert_pair(number, (year, 1, 1))
                self.assert_pair(number + length - 1, (year, 12, 31))
            number += length
        self.assertEqual(number, LAST + 1)

    def test_days_spread_from_first_to_last(self):
        for number in range(FIRST, LAST + 1, 9973):
            answer = civil(number)
            if answer[0] != 0 or day(*answer[1:]) != [0, number]:
                self.fail(f"{number}: civil says {answer}, day says {day(*answer[1:])}")


if __name__ == "__main__":
    unittest.main()
