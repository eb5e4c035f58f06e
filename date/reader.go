package date

import (
	"marginalia/api"
	"marginalia/scan"
)

const months = "JanFebMarAprMayJunJulAugSepOctNovDec"

// reader of a time, part by part. What is not of its form gives up.
type reader struct {
	in    *scan.Text
	date  calendarDay
	clock int // seconds of that day
	ahead int // seconds that both are ahead of UTC
}

// at which time a text is, all of which must be what read reads.
func (r *reader) at(read func()) (int, api.Errno) {
	if !r.in.Try(read) || !r.in.Done() {
		return 0, api.ErrForm
	}
	if !r.date.stands() {
		return 0, api.ErrRange
	}
	at := r.date.number()*secondsOfDay + r.clock - r.ahead
	if !mayBeTold(at) {
		return 0, api.ErrRange
	}
	return at, api.OK
}

func (r *reader) web() {
	r.date.year = r.number(4)
	r.in.Must("-")
	r.date.month = r.number(2)
	r.in.Must("-")
	r.date.day = r.number(2)
	r.in.Must("T")
	r.clock = r.timeOfDay()
	if !r.in.Passed("Z") {
		r.ahead = r.offset(":")
	}
}

func (r *reader) mail() {
	r.weekday()
	r.date.day = r.shortNumber()
	r.in.Must(" ")
	r.date.month = r.monthName()
	r.in.Must(" ")
	r.date.year = r.number(4)
	r.in.Must(" ")
	r.clock = r.timeOfDay()
	r.in.Must(" ")
	if !r.in.Passed("GMT") && !r.in.Passed("UT") {
		r.ahead = r.offset("")
	}
}

// weekday is passed, if there is one. It may be any: nobody looks which day it is.
func (r *reader) weekday() {
	name := r.in.Pass(scan.Letter)
	if name == "" {
		return
	}
	if len(name) != 3 {
		scan.GiveUp()
	}
	r.in.Must(", ")
}

func (r *reader) monthName() int {
	for i := 0; i < len(months); i += 3 {
		if r.in.Passed(months[i : i+3]) {
			return i/3 + 1
		}
	}
	scan.GiveUp()
	return 0
}

// timeOfDay in seconds.
func (r *reader) timeOfDay() int {
	hours := r.upTo(23)
	r.in.Must(":")
	minutes := r.upTo(59)
	r.in.Must(":")
	return hours*3600 + minutes*60 + r.upTo(59)
}

// offset ahead of UTC in seconds, with a mark between its hours and its minutes.
func (r *reader) offset(mark string) int {
	sign := 1
	if r.in.Passed("-") {
		sign = -1
	} else {
		r.in.Must("+")
	}
	hours := r.upTo(23)
	r.in.Must(mark)
	return sign * (hours*3600 + r.upTo(59)*60)
}

// upTo: a number of two digits that is at most so much.
func (r *reader) upTo(most int) int {
	n := r.number(2)
	if n > most {
		scan.GiveUp()
	}
	return n
}

// shortNumber of one digit or two.
func (r *reader) shortNumber() int {
	if r.in.Ahead(1, scan.Digit) {
		return r.number(2)
	}
	return r.number(1)
}

// number of so many digits.
func (r *reader) number(digits int) int {
	n := 0
	for range digits {
		c := r.in.One()
		if !scan.Digit(c) {
			scan.GiveUp()
		}
		n = n*10 + int(c-'0')
	}
	return n
}
