package date

import (
	"strconv"
	"strings"
)

const secondsOfDay = 24 * 60 * 60

// firstYear is the one with whose beginning times begin.
const firstYear = 1970

// calendarDay is a day as the calendar tells it.
type calendarDay struct{ year, month, day int }

// stands: is there such a day?
func (d calendarDay) stands() bool {
	return d.month >= 1 && d.month <= 12 && d.day >= 1 && d.day <= daysOfMonth(d.year, d.month)
}

// number of days from the beginning of firstYear up to this one; below 0 ahead of it.
func (d calendarDay) number() int {
	n := daysAhead(d.year) - daysAhead(firstYear)
	for m := 1; m < d.month; m++ {
		n += daysOfMonth(d.year, m)
	}
	return n + d.day - 1
}

// dayAfter so many days from the beginning of firstYear on.
func dayAfter(days int) calendarDay {
	d := calendarDay{year: firstYear, month: 1}
	for days >= daysOfYear(d.year) {
		days -= daysOfYear(d.year)
		d.year++
	}
	for days >= daysOfMonth(d.year, d.month) {
		days -= daysOfMonth(d.year, d.month)
		d.month++
	}
	d.day = days + 1
	return d
}

// daysAhead of a year, from the beginning of the year 0 on, which has a Feb 29 itself: so the divisions round up.
func daysAhead(year int) int { return 365*year + (year+3)/4 - (year+99)/100 + (year+399)/400 }

func daysOfYear(year int) int { return daysAhead(year+1) - daysAhead(year) }

func daysOfMonth(year, month int) int {
	switch month {
	case 2:
		return 28 + daysOfYear(year) - 365
	case 4, 6, 9, 11:
		return 30
	}
	return 31
}

// padded number, with noughts ahead up to so many digits.
func padded(n, width int) string {
	s := strconv.Itoa(n)
	return strings.Repeat("0", max(width-len(s), 0)) + s
}
