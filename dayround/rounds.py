"""Days that come round by a rule: every so many days, weeks, months or years from a day on."""

from dayround.almanac import first_of_year, is_day, year_of
from dayround.months import MONTHS_IN_YEAR, days_into_month, first_of_numbered, length_of_numbered, number_of_month
from dayround.weeks import DAYS_IN_WEEK, day_of_week, first_of_week

BY_DAYS = 0
BY_WEEKS = 1
BY_MONTHS = 2
BY_YEARS = 3

MOST_STEP = 1000
MOST_NTH = 5
MOST_COUNT = 1000000
MOST_DAYS = 4096
# One bit for each month, one for each day of the week.
END_OF_MONTHS = 4096
END_OF_WDAYS = 128


class Round:
    def __init__(self, start, unit, step, nth, wday, count, months, wdays):
        self.start = start
        self.unit = unit
        self.step = step
        self.nth = nth
        self.wday = wday
        self.count = count
        self.months = months
        self.wdays = wdays


def is_from_to(number, least, greatest):
    return number >= least and number <= greatest


def is_round(rule):
    if not is_day(rule.start) or not is_from_to(rule.unit, BY_DAYS, BY_YEARS):
        return False
    if not is_from_to(rule.step, 1, MOST_STEP) or not is_from_to(rule.count, 0, MOST_COUNT):
        return False
    if not is_from_to(rule.nth, -MOST_NTH, MOST_NTH) or not is_from_to(rule.wday, 1, DAYS_IN_WEEK):
        return False
    return rule.months < END_OF_MONTHS and rule.wdays < END_OF_WDAYS


def is_window(flags, until, the_from, most):
    if not is_from_to(flags, 0, 1) or not is_from_to(most, 0, MOST_DAYS):
        return False
    if flags == 1 and not is_day(until):
        return False
    return is_day(the_from)


def has_bit(bits, place):
    return (bits >> place) & 1 == 1


def first_of_turn(rule, turn):
    steps = turn * rule.step
    if rule.unit == BY_DAYS:
        return rule.start + steps
    if rule.unit == BY_WEEKS:
        return first_of_week(rule.start) + steps * DAYS_IN_WEEK
    if rule.unit == BY_MONTHS:
        return first_of_numbered(number_of_month(rule.start) + steps)
    return first_of_year(year_of(rule.start) + steps)


def is_month_of(rule, month):
    in_year = month % MONTHS_IN_YEAR
    if rule.months != 0:
        return has_bit(rule.months, in_year)
    return rule.unit == BY_MONTHS or in_year == number_of_month(rule.start) % MONTHS_IN_YEAR


def place_in_month(rule, month):
    if rule.nth == 0:
        return days_into_month(rule.start)
    first = first_of_numbered(month)
    if rule.nth > 0:
        return (rule.wday - day_of_week(first)) % DAYS_IN_WEEK + (rule.nth - 1) * DAYS_IN_WEEK
    last = length_of_numbered(month) - 1
    return last - (day_of_week(first + last) - rule.wday) % DAYS_IN_WEEK + (rule.nth + 1) * DAYS_IN_WEEK


def days_in_months(rule, months):
    days = []
    for month in months:
        place = place_in_month(rule, month)
        if is_month_of(rule, month) and place >= 0 and place < length_of_numbered(month):
            days.append(first_of_numbered(month) + place)
    return days


def days_of_turn(rule, first):
    if rule.unit == BY_DAYS:
        return [first]
    if rule.unit == BY_WEEKS:
        return [first + place for place in range(DAYS_IN_WEEK) if has_bit(rule.wdays, place)]
    month = number_of_month(first)
    if rule.unit == BY_MONTHS:
        return days_in_months(rule, [month])
    return days_in_months(rule, list(range(month, month + MONTHS_IN_YEAR)))


def days_given(rule, end, the_from, most):
    days = []
    given = 0
    turn = 0
    first = first_of_turn(rule, turn)
    while first <= end:
        for day in days_of_turn(rule, first):
            if len(days) == most or (rule.count != 0 and given == rule.count):
                return days
            # The first week, month or year has days before start, the last one days after the end.
            if day >= rule.start and day <= end:
                given = given + 1
                if day >= the_from:
                    days.append(day)
        turn = turn + 1
        first = first_of_turn(rule, turn)
    return days
