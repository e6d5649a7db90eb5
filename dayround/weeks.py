"""Weeks: where each begins, to which year it belongs, how they are counted there."""

from dayround.almanac import first_of_year, is_year, year_of

DAYS_IN_WEEK = 7


def day_of_week(day):
    # Day 0 is a 4: three days before it a week begins.
    return (day + 3) % DAYS_IN_WEEK + 1


def first_of_week(day):
    return day - day_of_week(day) + 1


def first_of_week_1(year):
    # Week 1 is the one that has 4 January.
    return first_of_week(first_of_year(year) + 3)


def year_of_week(day):
    # A week belongs to the year that has its 4, be that year beyond the first or the last of the calendar.
    return year_of(first_of_week(day) + 3)


def week_of_year(year, day):
    return (day - first_of_week_1(year)) // DAYS_IN_WEEK + 1


def weeks_in_year(year):
    return (first_of_week_1(year + 1) - first_of_week_1(year)) // DAYS_IN_WEEK


def is_week_date(year, week, weekday):
    if not is_year(year):
        return False
    if week < 1 or week > weeks_in_year(year):
        return False
    return weekday >= 1 and weekday <= DAYS_IN_WEEK


def day_of_week_date(year, week, weekday):
    return first_of_week_1(year) + (week - 1) * DAYS_IN_WEEK + weekday - 1
