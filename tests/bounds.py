"""The ends of the calendar and of what may be handed in, and the refusals, for all tests."""

FIRST = -365961662
LAST = 364522971
LOWEST = -2147483648
HIGHEST = 2147483647
LOWEST_LONG = -9223372036854775808
HIGHEST_LONG = 9223372036854775807
NONE = [-1]
OUT_OF_RANGE = [-2]
