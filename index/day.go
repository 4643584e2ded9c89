package index

import (
	"strconv"
	"strings"
)

const (
	daySeconds    = 24 * 60 * 60
	yearDays      = 365
	fourDays      = 4*yearDays + 1
	centuryDays   = 25*fourDays - 1
	cycleDays     = 4*centuryDays + 1 // 400 years, behind which the calendar is the same again
	daysAhead1970 = 719468            // from the first of March of the year 0 to the beginning of 1970
)

// moment is the day and the time of day that are so many seconds behind the beginning of 1970.
func moment(seconds int64) string {
	days, rest := divided(seconds, daySeconds)
	hour, minute, second := rest/3600, rest/60%60, rest%60
	return dayText(date(days)) + " " + digits(hour, 2) + ":" + digits(minute, 2) + ":" + digits(second, 2)
}

func dayText(year, month, day int64) string {
	sign := ""
	if year < 0 {
		sign, year = "-", -year
	}
	return sign + digits(year, 4) + "-" + digits(month, 2) + "-" + digits(day, 2)
}

// date is the day so many days behind the beginning of 1970. It counts years that begin with March, as their last day is the one that only some of them have.
func date(days int64) (year, month, day int64) {
	cycles, rest := divided(days+daysAhead1970, cycleDays)
	year = 400 * cycles
	for _, span := range []struct{ days, years, most int64 }{
		{centuryDays, 100, 3},
		{fourDays, 4, 24},
		{yearDays, 1, 3},
	} {
		// The last day of the last span has no span of its own.
		n := min(rest/span.days, span.most)
		year += n * span.years
		rest -= n * span.days
	}
	month = 3
	for _, length := range []int64{31, 30, 31, 30, 31, 31, 30, 31, 30, 31, 31} {
		if rest < length {
			break
		}
		rest -= length
		month++
	}
	if month > 12 {
		year, month = year+1, month-12
	}
	return year, month, rest + 1
}

// divided is n divided by a number above 0, rounded down, and what is left, which is not below 0.
func divided(n, by int64) (int64, int64) {
	quotient, rest := n/by, n%by
	if rest < 0 {
		quotient, rest = quotient-1, rest+by
	}
	return quotient, rest
}

// digits is a number that is not below 0, with at least so many digits.
func digits(n int64, least int) string {
	text := strconv.FormatInt(n, 10)
	return strings.Repeat("0", max(0, least-len(text))) + text
}
