"""The calls: each takes its arguments and gives back a list of whole numbers, a refusal's number alone."""

from dayround.almanac import first_of_month, is_date, is_day, month_of, year_of

DONE = 0
NO_SUCH_DAY = -1


def day(y, m, d):
    if not is_date(y, m, d):
        return [NO_SUCH_DAY]
    return [DONE, first_of_month(y, m) + d - 1]


def civil(day):
    if not is_day(day):
        return [NO_SUCH_DAY]
    year = year_of(day)
    month = month_of(year, day)
    return [DONE, year, month, day - first_of_month(year, month) + 1]
