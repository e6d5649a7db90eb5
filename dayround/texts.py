"""Days written as texts, in three forms."""

from dayround.almanac import first_of_year, month_of, year_of
from dayround.months import days_into_month
from dayround.weeks import day_of_week, week_of_year, year_of_week

MOST_SIGNS = 32

BY_MONTH = 0
BY_WEEK = 1
BY_YEAR = 2


def is_form(form):
    return form >= BY_MONTH and form <= BY_YEAR


def is_number_of_signs(number):
    return number >= 0 and number <= MOST_SIGNS


def digits_of(number, digits):
    return str(number).zfill(digits)


def year_text(year):
    # The minus is none of the four digits.
    text = digits_of(abs(year), 4)
    if year < 0:
        return "-" + text
    return text


def text_by_month(day):
    year = year_of(day)
    month = month_of(year, day)
    return year_text(year) + "-" + digits_of(month, 2) + "-" + digits_of(days_into_month(day) + 1, 2)


def text_by_week(day):
    year = year_of_week(day)
    week = week_of_year(year, day)
    return year_text(year) + "-W" + digits_of(week, 2) + "-" + str(day_of_week(day))


def text_by_year(day):
    year = year_of(day)
    return year_text(year) + "-" + digits_of(day - first_of_year(year) + 1, 3)


def text_of(form, day):
    if form == BY_MONTH:
        return text_by_month(day)
    if form == BY_WEEK:
        return text_by_week(day)
    return text_by_year(day)


def signs_of(text):
    return [ord(sign) for sign in text]
