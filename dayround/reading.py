"""Days read from texts."""

from dayround.almanac import first_of_year, is_day
from dayround.months import MONTHS_IN_YEAR, first_of_numbered
from dayround.texts import BY_MONTH, BY_WEEK, signs_of, text_of
from dayround.weeks import day_of_week_date

MINUS = 45
DIGIT_0 = 48


# Whether each sign is a digit, and whether there is such a month, week or day, isn't asked here: a wrong text comes to
# some number too, but no day is written like it.
def number_told(signs):
    number = 0
    for sign in signs:
        number = number * 10 + sign - DIGIT_0
    return number


def year_told(signs):
    if signs[:1] == [MINUS]:
        return -number_told(signs[1:])
    return number_told(signs)


# The year is as long as it needs to be; what stands behind it is as long in each text of a form.
def told_by_month(signs):
    month = year_told(signs[:-6]) * MONTHS_IN_YEAR + number_told(signs[-5:-3]) - 1
    return first_of_numbered(month) + number_told(signs[-2:]) - 1


def told_by_week(signs):
    return day_of_week_date(year_told(signs[:-6]), number_told(signs[-4:-2]), number_told(signs[-1:]))


def told_by_year(signs):
    return first_of_year(year_told(signs[:-4])) + number_told(signs[-3:]) - 1


def day_told(form, signs):
    if form == BY_MONTH:
        return told_by_month(signs)
    if form == BY_WEEK:
        return told_by_week(signs)
    return told_by_year(signs)


def is_written(form, day, signs):
    return is_day(day) and signs_of(text_of(form, day)) == signs
