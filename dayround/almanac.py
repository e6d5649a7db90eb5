"""The calendar: which years are long, how months and years are laid out over the numbered days."""

FIRST_YEAR = -999999
LAST_YEAR = 999999
FIRST = -365961662
LAST = 364522971

MONTH_LENGTHS = (31, 28, 31, 30, 31, 30, 31, 31, 30, 31, 30, 31)
DAYS_BEFORE_MONTH = (0, 31, 59, 90, 120, 151, 181, 212, 243, 273, 304, 334)

# Each span is the plain one: the last century of 400 years has a day more than 36524,
# the last year of 4 may have one more than 365, the last 4 years of a century may have one less than 1461.
DAYS_IN_YEAR = 365
DAYS_IN_4_YEARS = 1461
DAYS_IN_100_YEARS = 36524
DAYS_IN_400_YEARS = 146097

# Spans of 400 years are counted from the year 1, so that each closes with its long year.
FIRST_OF_YEAR_1 = -719162


def is_long(year):
    return year % 4 == 0 and (year % 100 != 0 or year % 400 == 0)


def month_length(year, month):
    if month == 2 and is_long(year):
        return 29
    return MONTH_LENGTHS[month - 1]


def is_year(year):
    return year >= FIRST_YEAR and year <= LAST_YEAR


def is_date(year, month, day_of_month):
    if not is_year(year):
        return False
    if month < 1 or month > 12:
        return False
    return day_of_month >= 1 and day_of_month <= month_length(year, month)


def is_day(day):
    return day >= FIRST and day <= LAST


def first_of_year(year):
    # Rounding down, also below 0, counts the long years rightly on both sides of the year 1.
    years = year - 1
    long_years = years // 4 - years // 100 + years // 400
    return FIRST_OF_YEAR_1 + years * DAYS_IN_YEAR + long_years


def first_of_month(year, month):
    first = first_of_year(year) + DAYS_BEFORE_MONTH[month - 1]
    if month > 2 and is_long(year):
        return first + 1
    return first


def year_of(day):
    since = day - FIRST_OF_YEAR_1
    in_span = since % DAYS_IN_400_YEARS
    # The last day of a span would begin a fifth part of it: it belongs to the fourth.
    century = min(in_span // DAYS_IN_100_YEARS, 3)
    in_century = in_span - century * DAYS_IN_100_YEARS
    year = min(in_century % DAYS_IN_4_YEARS // DAYS_IN_YEAR, 3)
    spans = since // DAYS_IN_400_YEARS
    fours = in_century // DAYS_IN_4_YEARS
    return 1 + spans * 400 + century * 100 + fours * 4 + year


def month_of(year, day):
    month = 12
    while first_of_month(year, month) > day:
        month = month - 1
    return month
