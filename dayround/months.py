"""Months numbered one after another over the turn of years, and days moved by whole months."""

from dayround.almanac import first_of_month, month_length, month_of, year_of

MONTHS_IN_YEAR = 12
MOST_MONTHS = 24000000

# What becomes of a day that the month it is moved to is too short for.
LAST_OF_MONTH = 0
FIRST_OF_NEXT = 1
REFUSED = 2


def is_rule(rule):
    return rule >= LAST_OF_MONTH and rule <= REFUSED


def is_move(months):
    return months >= -MOST_MONTHS and months <= MOST_MONTHS


def number_of_month(day):
    # January of the year 0 is month 0, so that to move by months is to add.
    year = year_of(day)
    return year * MONTHS_IN_YEAR + month_of(year, day) - 1


def first_of_numbered(number):
    return first_of_month(number // MONTHS_IN_YEAR, number % MONTHS_IN_YEAR + 1)


def length_of_numbered(number):
    return month_length(number // MONTHS_IN_YEAR, number % MONTHS_IN_YEAR + 1)


def days_into_month(day):
    return day - first_of_numbered(number_of_month(day))


def has_place(day, months):
    return days_into_month(day) < length_of_numbered(number_of_month(day) + months)


def moved(day, months, rule):
    goal = number_of_month(day) + months
    if has_place(day, months):
        return first_of_numbered(goal) + days_into_month(day)
    if rule == FIRST_OF_NEXT:
        return first_of_numbered(goal + 1)
    return first_of_numbered(goal + 1) - 1


def whole_months(a, b):
    months = number_of_month(b) - number_of_month(a)
    # Moved into the month of b, a may still come after b; a month earlier it cannot.
    if moved(a, months, LAST_OF_MONTH) > b:
        return months - 1
    return months
