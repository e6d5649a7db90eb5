"""Rules looked through day by day: each day by itself is held against the rule."""

import random
import unittest

from dayround.desk import again, civil, day
from bounds import FIRST, LAST
from plain_calendar import length_of_month

YEAR_0 = -719528


class Walk:
    """A day that goes on, with its date and how many weeks, months and years lie behind it."""

    def __init__(self, start):
        self.number = start
        self.year, self.month, self.day = civil(start)[1:]
        # Day 0 is a 4.
        self.weekday = (start - 4) % 7 + 1
        self.weeks = self.months = self.years = 0

    def go_on(self):
        self.number += 1
        self.weekday += 1
        if self.weekday == 8:
            self.weekday = 1
            self.weeks += 1
        self.day += 1
        if self.day > length_of_month(self.year, self.month):
            self.day = 1
            self.month += 1
            self.months += 1
        if self.month == 13:
            self.month = 1
            self.year += 1
            self.years += 1


def is_the_day(walk, nth, wday, start):
    if nth == 0:
        return walk.day == start.day
    if walk.weekday != wday:
        return False
    if nth > 0:
        return (walk.day + 6) // 7 == nth
    return (length_of_month(walk.year, walk.month) - walk.day) // 7 + 1 == -nth


def has_bit(bits, number):
    return bits // 2 ** (number - 1) % 2 == 1


def gives(walk, start, unit, step, nth, wday, months, wdays):
    if unit == 0:
        return (walk.number - start.number) % step == 0
    if unit == 1:
        return walk.weeks % step == 0 and has_bit(wdays, walk.weekday)
    if unit == 2:
        of_them = months == 0 or has_bit(months, walk.month)
        return walk.months % step == 0 and of_them and is_the_day(walk, nth, wday, start)
    of_them = has_bit(months, walk.month) if months else walk.month == start.month
    return walk.years % step == 0 and of_them and is_the_day(walk, nth, wday, start)


def walked(start, unit, step, nth, wday, count, months, wdays, flags, until, the_from, most):
    begun, walk = Walk(start), Walk(start)
    given, days = 0, []
    while walk.number <= until:
        if gives(walk, begun, unit, step, nth, wday, months, wdays):
            given += 1
            if walk.number >= the_from and len(days) < most and (count == 0 or given <= count):
                days.append(walk.number)
        walk.go_on()
    return [len(days)] + days


class DayByDay(unittest.TestCase):
    def assert_walked(self, *arguments):
        answer = again(*arguments)
        told = walked(*arguments)
        if answer != told:
            self.fail(f"{arguments}: {answer[:9]}, not {told[:9]}")

    def test_weekday_of_a_walk(self):
        self.assertEqual([Walk(number).weekday for number in (-4, -3, 0, 3, 4)], [7, 1, 4, 7, 1])

    def test_each_nth_and_day_of_the_week_over_four_years(self):
        start = day(2023, 5, 1)[1]
        for unit in (2, 3):
            for nth in range(-5, 6):
                for wday in range(1, 8):
                    months = 0 if unit == 2 else 4095
                    self.assert_walked(start, unit, 1, nth, wday, 0, months, 0, 1, start + 1461, start, 4096)

    def test_each_start_of_a_long_year(self):
        for start in range(day(2024, 1, 1)[1], day(2025, 1, 1)[1]):
            self.assert_walked(start, 2, 1, 0, 1, 0, 0, 0, 1, start + 400, start, 4096)
            self.assert_walked(start, 3, 1, 0, 1, 0, 0, 0, 1, start + 1500, start, 4096)
            self.assert_walked(start, 1, 2, 0, 1, 0, 0, 1 + start % 127, 1, start + 50, start, 4096)

    def test_each_set_of_days_of_the_week(self):
        for wdays in range(128):
            for start in range(20773, 20780):
                self.assert_walked(start, 1, 2, 0, 1, 0, 0, wdays, 1, start + 40, start, 4096)

    def draw_arguments(self, draw, start, span):
        unit = draw.randrange(4)
        greatest = draw.choice((1, 3, 14, 1000)) if unit < 2 else draw.choice((1, 1, 2, 7, 12))
        step = draw.randint(1, greatest)
        nth = draw.choice((0, 0, draw.randint(-5, 5)))
        count = draw.choice((0, 0, draw.randint(1, 20), draw.randint(1, 1000000)))
        months = draw.choice((0, draw.randrange(4096)))
        until = min(start + draw.randint(-5, span), LAST)
        the_from = draw.choice((start, start + draw.randint(-10, span)))
        most = draw.choice((4096, draw.randrange(4097), draw.randrange(10)))
        return (
            start, unit, step, nth, draw.randint(1, 7), count, months, draw.randrange(128), 1, max(until, FIRST),
            max(FIRST, min(the_from, LAST)), most,
        )

    def test_rules_drawn_by_lot(self):
        draw = random.Random(8)
        for _ in range(2000):
            start = draw.randint(FIRST, LAST)
            self.assert_walked(*self.draw_arguments(draw, start, 900))

    def test_rules_drawn_by_lot_about_the_year_0(self):
        draw = random.Random(9)
        for _ in range(1000):
            start = YEAR_0 + draw.randint(-1600, 800)
            self.assert_walked(*self.draw_arguments(draw, start, 1200))

    def test_rules_drawn_by_lot_at_the_ends(self):
        draw = random.Random(10)
        for _ in range(500):
            self.assert_walked(*self.draw_arguments(draw, FIRST + draw.randrange(40), 500))
            self.assert_walked(*self.draw_arguments(draw, LAST - draw.randrange(1000), 1200))

    def test_rules_drawn_by_lot_as_far_as_is_asked(self):
        draw = random.Random(11)
        for _ in range(100):
            self.assert_walked(*self.draw_arguments(draw, draw.randint(FIRST, LAST), 20000))


if __name__ == "__main__":
    unittest.main()
