"""Days, months, weeks and what comes round again."""
