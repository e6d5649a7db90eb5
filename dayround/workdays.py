"""Working days: those that are neither days of rest nor holidays."""

from dayround.almanac import is_day
from dayround.weeks import DAYS_IN_WEEK, day_of_week

MOST_STEPS = 100000
MOST_HOLIDAYS = 1024

# Rest has a bit for each day of the week; with all seven set there would be no working day at all.
ALL_DAYS_REST = 127


def is_number_of_steps(n):
    return n >= 0 and n <= MOST_STEPS


def is_rest(rest):
    return rest >= 0 and rest < ALL_DAYS_REST


def is_list_of_holidays(holidays):
    if len(holidays) > MOST_HOLIDAYS:
        return False
    for place, holiday in enumerate(holidays):
        if not is_day(holiday):
            return False
        if place > 0 and holiday <= holidays[place - 1]:
            return False
    return True


def is_day_of_rest(day, rest):
    return (rest >> (day_of_week(day) - 1)) & 1 == 1


def working_days_in_week(rest):
    return sum([1 - ((rest >> place) & 1) for place in range(DAYS_IN_WEEK)])


def nth_by_week(day, n, rest):
    # Whole weeks have as many working days each, wherever in the week they are begun: only what is left is walked.
    in_week = working_days_in_week(rest)
    found = day + n // in_week * DAYS_IN_WEEK
    left = n % in_week
    while left > 0 or is_day_of_rest(found, rest):
        if not is_day_of_rest(found, rest):
            left = left - 1
        found = found + 1
    return found


def nth_working_day(day, n, rest, holidays):
    found = nth_by_week(day, n, rest)
    # Each holiday that would have been worked puts off the day by one; as they rise, none has to be looked at again.
    for holiday in holidays:
        if holiday >= day and holiday <= found and not is_day_of_rest(holiday, rest):
            found = nth_by_week(found, 1, rest)
    return found
