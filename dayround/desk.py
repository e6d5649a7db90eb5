"""The calls: each takes its arguments and gives back a list of whole numbers, a refusal's number alone."""

from dayround.almanac import first_of_month, is_date, is_day, month_of, year_of
from dayround.weeks import day_of_week, day_of_week_date, is_week_date, week_of_year, year_of_week

DONE = 0
NO_SUCH_DAY = -1


def answer_day(day):
    if not is_day(day):
        return [NO_SUCH_DAY]
    return [DONE, day]


def day(y, m, d):
    if not is_date(y, m, d):
        return [NO_SUCH_DAY]
    return [DONE, first_of_month(y, m) + d - 1]


def civil(day):
    if not is_day(day):
        return [NO_SUCH_DAY]
    year = year_of(day)
    month = month_of(year, day)
    return [DONE, year, month, day - first_of_month(year, month) + 1]


def week(day):
    if not is_day(day):
        return [NO_SUCH_DAY]
    year = year_of_week(day)
    return [DONE, year, week_of_year(year, day), day_of_week(day)]


def from_week(y, w, wd):
    if not is_week_date(y, w, wd):
        return [NO_SUCH_DAY]
    # The last week of the last year goes on beyond the last day.
    return answer_day(day_of_week_date(y, w, wd))
