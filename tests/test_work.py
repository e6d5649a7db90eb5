import datetime
import random
import unittest

from dayround.desk import day, work
from bounds import FIRST, HIGHEST, HIGHEST_LONG, LAST, LOWEST, LOWEST_LONG, NONE, OUT_OF_RANGE

# Bits of rest: the days 6 and 7 of each week; all days but one.
WEEKEND = 96
ALL_BUT = {weekday: 127 - 2 ** (weekday - 1) for weekday in range(1, 8)}
# 16 November 2026 is a 1.
MONDAY = 20773


def day_of_week(number):
    return (number - MONDAY) % 7 + 1


def rests(number, rest):
    return rest // 2 ** (day_of_week(number) - 1) % 2 == 1


def walked(number, n, rest, holidays):
    """The same, found day by day."""
    off = set(holidays)
    left = n
    while True:
        if number not in off and not rests(number, rest):
            if left == 0:
                return number
            left -= 1
        number += 1


class WorkCase(unittest.TestCase):
    def assert_walked(self, number, n, rest, holidays):
        answer = work(number, n, rest, holidays)
        told = walked(number, n, rest, holidays)
        if answer != [0, told]:
            self.fail(f"{n} from {number}, rest {rest}, {len(holidays)} holidays: {answer}, not {told}")


class OrdinaryCalls(WorkCase):
    def test_0_from_a_working_day_is_the_day_itself(self):
        for number in range(MONDAY, MONDAY + 5):
            self.assertEqual(work(number, 0, WEEKEND, []), [0, number])
        self.assertEqual(work(MONDAY, 0, WEEKEND, [MONDAY - 1, MONDAY + 1]), [0, MONDAY])

    def test_0_from_a_day_of_rest(self):
        self.assertEqual(work(MONDAY + 5, 0, WEEKEND, []), [0, MONDAY + 7])
        self.assertEqual(work(MONDAY + 6, 0, WEEKEND, []), [0, MONDAY + 7])
        self.assertEqual(work(MONDAY - 1, 0, WEEKEND, []), [0, MONDAY])

    def test_0_from_a_holiday(self):
        self.assertEqual(work(MONDAY, 0, WEEKEND, [MONDAY]), [0, MONDAY + 1])
        self.assertEqual(work(MONDAY + 4, 0, WEEKEND, [MONDAY + 4]), [0, MONDAY + 7])
        self.assertEqual(work(MONDAY + 4, 0, WEEKEND, [MONDAY + 4, MONDAY + 7]), [0, MONDAY + 8])

    def test_1_and_more(self):
        self.assertEqual(work(MONDAY, 1, WEEKEND, []), [0, MONDAY + 1])
        self.assertEqual(work(MONDAY, 4, WEEKEND, []), [0, MONDAY + 4])
        self.assertEqual(work(MONDAY, 5, WEEKEND, []), [0, MONDAY + 7])
        self.assertEqual(work(MONDAY + 4, 1, WEEKEND, []), [0, MONDAY + 7])

    def test_1_and_more_from_a_day_of_rest(self):
        # 0 is already the first working day behind the rest.
        for number in (MONDAY + 5, MONDAY + 6):
            self.assertEqual(work(number, 1, WEEKEND, []), [0, MONDAY + 8])
            self.assertEqual(work(number, 4, WEEKEND, []), [0, MONDAY + 11])
            self.assertEqual(work(number, 5, WEEKEND, []), [0, MONDAY + 14])

    def test_1_and_more_from_a_holiday(self):
        self.assertEqual(work(MONDAY, 1, WEEKEND, [MONDAY]), [0, MONDAY + 2])
        self.assertEqual(work(MONDAY, 4, WEEKEND, [MONDAY]), [0, MONDAY + 7])

    def test_over_several_weeks(self):
        self.assertEqual(work(MONDAY, 20, WEEKEND, []), [0, MONDAY + 28])
        self.assertEqual(work(MONDAY, 23, WEEKEND, []), [0, MONDAY + 31])
        self.assertEqual(work(MONDAY + 2, 23, WEEKEND, []), [0, MONDAY + 35])
        self.assertEqual(work(MONDAY, 260, WEEKEND, []), [0, MONDAY + 364])

    def test_over_several_weeks_with_holidays(self):
        christmas, boxing_day, new_year = day(2026, 12, 25)[1], day(2026, 12, 26)[1], day(2027, 1, 1)[1]
        holidays = [christmas, boxing_day, new_year]
        self.assertEqual(work(MONDAY, 28, WEEKEND, holidays), day(2026, 12, 24))
        self.assertEqual(work(MONDAY, 29, WEEKEND, holidays), day(2026, 12, 28))
        self.assertEqual(work(MONDAY, 32, WEEKEND, holidays), day(2026, 12, 31))
        self.assertEqual(work(MONDAY, 33, WEEKEND, holidays), day(2027, 1, 4))

    def test_about_day_0(self):
        # Day 0 is a 4.
        self.assertEqual(work(0, 0, WEEKEND, []), [0, 0])
        self.assertEqual(work(0, 2, WEEKEND, []), [0, 4])
        self.assertEqual(work(-1, 1, WEEKEND, []), [0, 0])
        self.assertEqual(work(-5, 0, WEEKEND, []), [0, -3])
        self.assertEqual(work(-3, 3, WEEKEND, [-2, -1]), [0, 4])
        self.assertEqual(work(-10, 1, 8, []), [0, -9])
        self.assertEqual(work(-8, 1, 8, []), [0, -6])

    def test_before_day_0(self):
        self.assertEqual(work(MONDAY - 7 * 10000, 5, WEEKEND, []), [0, MONDAY - 7 * 9999])
        self.assertEqual(work(-719528, 0, WEEKEND, []), [0, -719526])
        self.assertEqual(work(-719528, 10, WEEKEND, [-719526, -719520]), [0, -719511])


class JustNWorkingDaysComeBefore(WorkCase):
    def assert_n_before(self, number, n, rest, holidays):
        answer = work(number, n, rest, holidays)
        self.assertEqual((answer[0], len(answer)), (0, 2))
        off = set(holidays)
        working = [
            one for one in range(number, answer[1] + 1) if one not in off and not rests(one, rest)
        ]
        self.assertEqual((len(working), working[-1]), (n + 1, answer[1]), (number, n, rest, holidays))

    def test_with_no_holidays(self):
        for number in range(-10, 11):
            for rest in range(127):
                for n in (0, 1, 2, 3, 6, 7, 8, 20):
                    self.assert_n_before(number, n, rest, [])

    def test_with_holidays(self):
        holidays = [-9, -8, -2, -1, 0, 1, 5, 6, 7, 8, 9, 10, 11, 12, 20, 22, 24, 60]
        for number in range(-12, 15):
            for rest in range(127):
                for n in (0, 1, 2, 5, 9):
                    self.assert_n_before(number, n, rest, holidays)

    def test_days_of_the_week_as_datetime_tells_them(self):
        for number in range(-700000, 2900000, 12343):
            weekday = datetime.date.fromordinal(number + 719163).isoweekday()
            bit = 2 ** (weekday - 1)
            self.assertEqual(work(number, 0, 127 - bit, []), [0, number])
            self.assertEqual(work(number, 0, bit, []), [0, number + 1])

    def test_many_calls_drawn_by_lot(self):
        draw = random.Random(5)
        for _ in range(1500):
            number = draw.randrange(FIRST, LAST - 30000)
            rest = draw.randrange(127)
            span = draw.choice((10, 50, 400, 3000))
            some = draw.sample(range(number - 10, number + span), draw.randrange(min(span, 300)))
            holidays = sorted(one for one in some if one >= FIRST)
            self.assert_walked(number, draw.randrange(draw.choice((3, 30, 400))), rest, holidays)


class Rest(WorkCase):
    def test_no_day_of_rest(self):
        for number in (MONDAY, MONDAY + 5, MONDAY + 6, -1, FIRST, LAST - 9):
            for n in range(10):
                self.assertEqual(work(number, n, 0, []), [0, number + n])
        self.assertEqual(work(MONDAY, 2, 0, [MONDAY, MONDAY + 6]), [0, MONDAY + 3])

    def test_all_days_of_rest_but_the_first(self):
        self.assertEqual(work(MONDAY, 0, 126, []), [0, MONDAY])
        self.assertEqual(work(MONDAY, 1, 126, []), [0, MONDAY + 7])
        self.assertEqual(work(MONDAY + 1, 0, 126, []), [0, MONDAY + 7])
        self.assertEqual(work(MONDAY - 1, 3, 126, []), [0, MONDAY + 21])
        self.assertEqual(work(MONDAY, 1, 126, [MONDAY, MONDAY + 7]), [0, MONDAY + 21])

    def test_one_day_of_rest(self):
        for weekday in range(1, 8):
            bit = 2 ** (weekday - 1)
            on_it = MONDAY + weekday - 1
            with self.subTest(weekday=weekday):
                self.assertEqual(work(on_it, 0, bit, []), [0, on_it + 1])
                self.assertEqual(work(on_it + 1, 0, bit, []), [0, on_it + 1])
                self.assertEqual(work(on_it - 1, 0, bit, []), [0, on_it - 1])
                self.assertEqual(work(on_it - 1, 1, bit, []), [0, on_it + 1])
                self.assertEqual(work(on_it + 1, 5, bit, []), [0, on_it + 6])
                self.assertEqual(work(on_it + 1, 6, bit, []), [0, on_it + 8])

    def test_one_working_day(self):
        for weekday in range(1, 8):
            on_it = MONDAY + weekday - 1
            with self.subTest(weekday=weekday):
                self.assertEqual(work(on_it, 0, ALL_BUT[weekday], []), [0, on_it])
                self.assertEqual(work(on_it - 6, 0, ALL_BUT[weekday], []), [0, on_it])
                self.assertEqual(work(on_it + 1, 0, ALL_BUT[weekday], []), [0, on_it + 7])
                self.assertEqual(work(on_it, 2, ALL_BUT[weekday], [on_it + 7]), [0, on_it + 21])


class HowMany(WorkCase):
    def test_100000(self):
        self.assertEqual(work(MONDAY, 100000, 0, []), [0, MONDAY + 100000])
        self.assertEqual(work(MONDAY, 100000, WEEKEND, []), [0, MONDAY + 140000])
        self.assertEqual(work(MONDAY, 100000, 126, []), [0, MONDAY + 700000])
        self.assertEqual(work(MONDAY, 100000, 126, [MONDAY + 700000]), [0, MONDAY + 700007])
        self.assertEqual(work(MONDAY, 99999, 126, [MONDAY + 700000]), [0, MONDAY + 699993])
        self.assertEqual(work(MONDAY, 100000, 0, list(range(0, 30720, 30))), [0, MONDAY + 100331])

    def test_100000_day_by_day(self):
        for rest in (0, 1, 64, WEEKEND, 126):
            self.assert_walked(-50000, 100000, rest, list(range(-60000, -60000 + 1024 * 97, 97)))

    def test_1024_holidays_one_after_another(self):
        holidays = list(range(MONDAY, MONDAY + 1024))
        # 1024 days are 146 weeks and 2 days.
        self.assertEqual(work(MONDAY, 0, 0, holidays), [0, MONDAY + 1024])
        self.assertEqual(work(MONDAY, 7, 0, holidays), [0, MONDAY + 1031])
        self.assertEqual(work(MONDAY, 0, WEEKEND, holidays), [0, MONDAY + 1024])
        self.assertEqual(work(MONDAY, 0, 126, holidays), [0, MONDAY + 1029])
        self.assertEqual(work(MONDAY + 1023, 0, 0, holidays), [0, MONDAY + 1024])
        self.assertEqual(work(MONDAY - 1, 1, 0, holidays), [0, MONDAY + 1024])

    def test_1024_holidays_that_would_all_be_worked(self):
        holidays = [MONDAY + 7 * week for week in range(1024)]
        self.assertEqual(work(MONDAY, 0, 126, holidays), [0, MONDAY + 7 * 1024])
        self.assertEqual(work(MONDAY, 3, 126, holidays), [0, MONDAY + 7 * 1027])
        self.assertEqual(work(MONDAY + 1, 0, 126, holidays), [0, MONDAY + 7 * 1024])
        self.assertEqual(work(MONDAY, 0, 1, holidays), [0, MONDAY + 1])

    def test_the_last_of_1024_holidays_counts(self):
        holidays = [FIRST + number for number in range(1023)] + [MONDAY]
        self.assertEqual(work(MONDAY, 0, 0, holidays), [0, MONDAY + 1])

    def test_the_first_of_1024_holidays_counts(self):
        holidays = [MONDAY] + [LAST - number for number in range(1022, -1, -1)]
        self.assertEqual(work(MONDAY, 0, 0, holidays), [0, MONDAY + 1])

    def test_1025_holidays_are_too_many(self):
        self.assertEqual(work(MONDAY, 0, 0, list(range(1024))), [0, MONDAY])
        self.assertEqual(work(MONDAY, 0, 0, list(range(1025))), OUT_OF_RANGE)
        self.assertEqual(work(LAST + 1, 0, 0, list(range(1025))), OUT_OF_RANGE)


class Holidays(WorkCase):
    def test_a_run_over_days_of_rest(self):
        run = list(range(MONDAY + 3, MONDAY + 9))
        self.assertEqual(work(MONDAY, 2, WEEKEND, run), [0, MONDAY + 2])
        self.assertEqual(work(MONDAY, 3, WEEKEND, run), [0, MONDAY + 9])
        self.assertEqual(work(MONDAY + 5, 0, WEEKEND, run), [0, MONDAY + 9])

    def test_runs_with_a_day_between(self):
        run = [MONDAY, MONDAY + 1, MONDAY + 3, MONDAY + 4, MONDAY + 7, MONDAY + 9]
        self.assertEqual(work(MONDAY, 0, WEEKEND, run), [0, MONDAY + 2])
        self.assertEqual(work(MONDAY, 1, WEEKEND, run), [0, MONDAY + 8])
        self.assertEqual(work(MONDAY, 2, WEEKEND, run), [0, MONDAY + 10])

    def test_on_days_that_rest_anyway(self):
        # They are not taken off twice.
        self.assertEqual(work(MONDAY, 5, WEEKEND, [MONDAY + 5]), [0, MONDAY + 7])
        self.assertEqual(work(MONDAY, 5, WEEKEND, [MONDAY + 5, MONDAY + 6]), [0, MONDAY + 7])
        self.assertEqual(work(MONDAY + 5, 0, WEEKEND, [MONDAY + 5, MONDAY + 6]), [0, MONDAY + 7])
        self.assertEqual(work(MONDAY, 5, WEEKEND, [MONDAY + 6, MONDAY + 7]), [0, MONDAY + 8])

    def test_before_day(self):
        self.assertEqual(work(MONDAY, 0, WEEKEND, [MONDAY - 1]), [0, MONDAY])
        self.assertEqual(work(MONDAY, 3, 0, [MONDAY - 3, MONDAY - 2, MONDAY - 1]), [0, MONDAY + 3])
        self.assertEqual(work(MONDAY, 3, 0, [FIRST, MONDAY - 7, MONDAY + 1]), [0, MONDAY + 4])

    def test_on_day(self):
        self.assertEqual(work(MONDAY, 0, 0, [MONDAY]), [0, MONDAY + 1])
        self.assertEqual(work(MONDAY, 2, 0, [MONDAY]), [0, MONDAY + 3])

    def test_on_the_day_that_would_come_out(self):
        self.assertEqual(work(MONDAY, 3, 0, [MONDAY + 3]), [0, MONDAY + 4])
        self.assertEqual(work(MONDAY, 3, 0, [MONDAY + 3, MONDAY + 4]), [0, MONDAY + 5])
        self.assertEqual(work(MONDAY, 4, WEEKEND, [MONDAY + 4]), [0, MONDAY + 7])

    def test_on_a_day_that_comes_out_only_for_another_holiday(self):
        self.assertEqual(work(MONDAY, 3, 0, [MONDAY + 1, MONDAY + 4]), [0, MONDAY + 5])
        self.assertEqual(work(MONDAY, 3, 0, [MONDAY + 1, MONDAY + 4, MONDAY + 5, MONDAY + 7]), [0, MONDAY + 6])
        self.assertEqual(work(MONDAY, 4, WEEKEND, [MONDAY, MONDAY + 7]), [0, MONDAY + 8])

    def test_after_the_day_that_comes_out(self):
        self.assertEqual(work(MONDAY, 3, 0, [MONDAY + 4]), [0, MONDAY + 3])
        self.assertEqual(work(MONDAY, 3, 0, [MONDAY + 4, MONDAY + 5, LAST]), [0, MONDAY + 3])

    def test_first_and_last_as_holidays(self):
        self.assertEqual(work(FIRST, 0, 0, [FIRST]), [0, FIRST + 1])
        self.assertEqual(work(FIRST, 0, 0, [FIRST, LAST]), [0, FIRST + 1])
        self.assertEqual(work(MONDAY, 2, 0, [FIRST, LAST]), [0, MONDAY + 2])
        self.assertEqual(work(LAST - 1, 0, 0, [LAST]), [0, LAST - 1])
        self.assertEqual(work(LAST - 1, 1, 0, [LAST]), NONE)
        self.assertEqual(work(LAST, 0, 0, [LAST]), NONE)
        self.assertEqual(work(LAST, 0, 0, [FIRST, LAST]), NONE)

    def test_the_list_is_as_it_was(self):
        for holidays in ([], [MONDAY], [FIRST, MONDAY, MONDAY + 1, LAST], [5, 4], [LAST + 1], list(range(1024))):
            kept = list(holidays)
            work(MONDAY, 3, WEEKEND, holidays)
            work(LAST + 1, 3, WEEKEND, holidays)
            work(MONDAY, 3, 127, holidays)
            self.assertEqual(holidays, kept)


class FirstAndLast(WorkCase):
    # FIRST is a 1, LAST a 5.
    def test_from_first(self):
        self.assertEqual(work(FIRST, 0, WEEKEND, []), [0, FIRST])
        self.assertEqual(work(FIRST, 5, WEEKEND, []), [0, FIRST + 7])
        self.assertEqual(work(FIRST, 0, 1, []), [0, FIRST + 1])
        self.assertEqual(work(FIRST, 100000, 126, []), [0, FIRST + 700000])

    def test_from_last(self):
        self.assertEqual(work(LAST, 0, WEEKEND, []), [0, LAST])
        self.assertEqual(work(LAST, 0, ALL_BUT[5], []), [0, LAST])
        self.assertEqual(work(LAST, 0, 16, []), NONE)
        self.assertEqual(work(LAST, 1, 0, []), NONE)
        self.assertEqual(work(LAST, 100000, 126, []), NONE)

    def test_just_last(self):
        self.assertEqual(work(LAST - 4, 4, WEEKEND, []), [0, LAST])
        self.assertEqual(work(LAST - 6, 4, WEEKEND, []), [0, LAST])
        self.assertEqual(work(LAST - 100000, 100000, 0, []), [0, LAST])
        self.assertEqual(work(LAST - 700000, 100000, ALL_BUT[5], []), [0, LAST])
        self.assertEqual(work(LAST - 4, 3, WEEKEND, [LAST - 1]), [0, LAST])
        self.assertEqual(work(LAST - 1, 0, 0, [LAST - 1]), [0, LAST])

    def test_after_last(self):
        self.assertEqual(work(LAST - 4, 5, WEEKEND, []), NONE)
        self.assertEqual(work(LAST - 99999, 100000, 0, []), NONE)
        self.assertEqual(work(LAST - 699993, 100000, ALL_BUT[5], []), NONE)
        self.assertEqual(work(LAST - 4, 4, WEEKEND, [LAST - 1]), NONE)
        self.assertEqual(work(LAST - 4, 4, WEEKEND, [LAST]), NONE)
        self.assertEqual(work(LAST - 3, 0, ALL_BUT[1], []), NONE)


class WrongInputs(WorkCase):
    def test_rest(self):
        for rest in (-1, 127, 128, 255, LOWEST, HIGHEST):
            with self.subTest(rest=rest):
                self.assertEqual(work(MONDAY, 0, rest, []), OUT_OF_RANGE)
                self.assertEqual(work(MONDAY, 5, rest, [MONDAY]), OUT_OF_RANGE)

    def test_n(self):
        for n in (-1, -100000, 100001, LOWEST_LONG, HIGHEST_LONG):
            with self.subTest(n=n):
                self.assertEqual(work(MONDAY, n, 0, []), OUT_OF_RANGE)
                self.assertEqual(work(MONDAY, n, WEEKEND, [MONDAY]), OUT_OF_RANGE)

    def test_holidays_that_fall(self):
        for holidays in ([2, 1], [1, 3, 2], [2, 1, 3], [1, 2, 3, 4, 0], [LAST, FIRST], list(range(1024, 0, -1))):
            with self.subTest(holidays=holidays[:5]):
                self.assertEqual(work(MONDAY, 0, 0, holidays), OUT_OF_RANGE)

    def test_holidays_that_stand_twice(self):
        for holidays in ([1, 1], [1, 1, 2], [1, 2, 2], [1, 2, 2, 3], [FIRST, FIRST], [LAST, LAST], [0] * 1024):
            with self.subTest(holidays=holidays[:5]):
                self.assertEqual(work(MONDAY, 0, 0, holidays), OUT_OF_RANGE)

    def test_holidays_that_are_no_days(self):
        for holidays in (
            [FIRST - 1], [LAST + 1], [FIRST - 1, MONDAY], [MONDAY, LAST + 1], [FIRST - 1, FIRST, LAST],
            [FIRST, LAST, LAST + 1], [FIRST - 1, LAST + 1], [LOWEST_LONG], [HIGHEST_LONG], [LOWEST_LONG, HIGHEST_LONG],
            [FIRST - 2, FIRST - 1, MONDAY], [MONDAY, LAST + 1, LAST + 2], list(range(FIRST - 1, FIRST + 1023)),
            list(range(LAST - 1022, LAST + 2)),
        ):
            with self.subTest(holidays=holidays[:5]):
                self.assertEqual(work(MONDAY, 0, 0, holidays), OUT_OF_RANGE)

    def test_a_wrong_holiday_that_would_not_be_reached(self):
        self.assertEqual(work(MONDAY, 0, 0, [MONDAY + 9, MONDAY + 8]), OUT_OF_RANGE)
        self.assertEqual(work(MONDAY, 0, 0, [MONDAY - 8, MONDAY - 9]), OUT_OF_RANGE)
        self.assertEqual(work(MONDAY, 0, WEEKEND, [MONDAY + 6, MONDAY + 5]), OUT_OF_RANGE)
        self.assertEqual(work(MONDAY, 0, WEEKEND, [MONDAY + 6, MONDAY + 6]), OUT_OF_RANGE)

    def test_day(self):
        for number in (FIRST - 1, LAST + 1, FIRST - 7, LAST + 7, LOWEST_LONG, HIGHEST_LONG):
            with self.subTest(day=number):
                self.assertEqual(work(number, 0, 0, []), NONE)
                self.assertEqual(work(number, 7, WEEKEND, []), NONE)
                self.assertEqual(work(number, 100000, 126, [FIRST, 0, LAST]), NONE)

    def test_out_of_range_comes_before_all_else(self):
        for number in (FIRST - 1, LAST + 1, LOWEST_LONG, HIGHEST_LONG, LAST):
            with self.subTest(day=number):
                self.assertEqual(work(number, -1, 0, []), OUT_OF_RANGE)
                self.assertEqual(work(number, 100001, 0, []), OUT_OF_RANGE)
                self.assertEqual(work(number, 1, -1, []), OUT_OF_RANGE)
                self.assertEqual(work(number, 1, 127, []), OUT_OF_RANGE)
                self.assertEqual(work(number, 1, 0, [1, 1]), OUT_OF_RANGE)
                self.assertEqual(work(number, 1, 0, [2, 1]), OUT_OF_RANGE)
                self.assertEqual(work(number, 1, 0, [FIRST - 1]), OUT_OF_RANGE)
                self.assertEqual(work(number, 1, 0, [0, LAST + 1]), OUT_OF_RANGE)
                self.assertEqual(work(number, HIGHEST_LONG, HIGHEST, [HIGHEST_LONG, LOWEST_LONG]), OUT_OF_RANGE)

    def test_several_at_once(self):
        self.assertEqual(work(MONDAY, -1, 127, []), OUT_OF_RANGE)
        self.assertEqual(work(MONDAY, 100001, 0, [2, 1]), OUT_OF_RANGE)
        self.assertEqual(work(MONDAY, 0, -1, [FIRST - 1]), OUT_OF_RANGE)
        self.assertEqual(work(LOWEST_LONG, LOWEST_LONG, LOWEST, [LOWEST_LONG]), OUT_OF_RANGE)


if __name__ == "__main__":
    unittest.main()
