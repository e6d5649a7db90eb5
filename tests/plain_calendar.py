"""The lengths of months, written again for the tests, so that they don't rest on the package."""


def is_long(year):
    return year % 400 == 0 or (year % 4 == 0 and year % 100 != 0)


def length_of_month(year, month):
    if month == 2:
        return 29 if is_long(year) else 28
    return 30 if month in (4, 6, 9, 11) else 31
