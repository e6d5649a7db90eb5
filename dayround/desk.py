"""The calls: each takes its arguments and gives back a list of whole numbers, a refusal's number alone."""

from dayround.almanac import LAST, first_of_month, is_date, is_day, month_of, year_of
from dayround.months import LAST_OF_MONTH, MONTHS_IN_YEAR, REFUSED, has_place, is_move, is_rule, moved, whole_months
from dayround.reading import day_told, is_written
from dayround.rounds import Round, days_given, is_round, is_window
from dayround.texts import BY_MONTH, BY_WEEK, BY_YEAR, is_form, is_number_of_signs, signs_of, text_of
from dayround.weeks import day_of_week, day_of_week_date, is_week_date, week_of_year, year_of_week
from dayround.workdays import is_list_of_holidays, is_number_of_steps, is_rest, nth_working_day

DONE = 0
NO_SUCH_DAY = -1
OUT_OF_RANGE = -2


def answer_day(day):
    if not is_day(day):
        return [NO_SUCH_DAY]
    return [DONE, day]


def day(y, m, d):
    if not is_date(y, m, d):
        return [NO_SUCH_DAY]
    return [DONE, first_of_month(y, m) + d - 1]


def civil(day):
    if not is_day(day):
        return [NO_SUCH_DAY]
    year = year_of(day)
    month = month_of(year, day)
    return [DONE, year, month, day - first_of_month(year, month) + 1]


def week(day):
    if not is_day(day):
        return [NO_SUCH_DAY]
    year = year_of_week(day)
    return [DONE, year, week_of_year(year, day), day_of_week(day)]


def from_week(y, w, wd):
    if not is_week_date(y, w, wd):
        return [NO_SUCH_DAY]
    # The last week of the last year goes on beyond the last day.
    return answer_day(day_of_week_date(y, w, wd))


def move(day, months, rule):
    if not is_rule(rule) or not is_move(months):
        return [OUT_OF_RANGE]
    if not is_day(day):
        return [NO_SUCH_DAY]
    if rule == REFUSED and not has_place(day, months):
        return [NO_SUCH_DAY]
    return answer_day(moved(day, months, rule))


def between(a, b):
    # The order comes first, whether or not a and b are days.
    if b < a:
        return [OUT_OF_RANGE]
    if not is_day(a) or not is_day(b):
        return [NO_SUCH_DAY]
    months = whole_months(a, b)
    left = b - moved(a, months, LAST_OF_MONTH)
    return [DONE, months // MONTHS_IN_YEAR, months % MONTHS_IN_YEAR, left]


def work(day, n, rest, holidays):
    if not is_number_of_steps(n) or not is_rest(rest) or not is_list_of_holidays(holidays):
        return [OUT_OF_RANGE]
    if not is_day(day):
        return [NO_SUCH_DAY]
    return answer_day(nth_working_day(day, n, rest, holidays))


def write(form, day, most):
    if not is_form(form) or not is_number_of_signs(most):
        return [OUT_OF_RANGE]
    if not is_day(day):
        return [NO_SUCH_DAY]
    text = text_of(form, day)
    return [len(text)] + signs_of(text[:most])


def read(text):
    if not is_number_of_signs(len(text)):
        return [OUT_OF_RANGE]
    for form in (BY_MONTH, BY_WEEK, BY_YEAR):
        told = day_told(form, text)
        if is_written(form, told, text):
            return [DONE, told]
    return [NO_SUCH_DAY]


def again(start, unit, step, nth, wday, count, months, wdays, flags, until, the_from, most):
    rule = Round(start, unit, step, nth, wday, count, months, wdays)
    if not is_round(rule) or not is_window(flags, until, the_from, most):
        return [OUT_OF_RANGE]
    days = days_given(rule, until if flags == 1 else LAST, the_from, most)
    return [len(days)] + days
