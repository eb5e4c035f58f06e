package date

import (
	"fmt"
	"regexp"
	"strconv"
	"strings"
	"testing"
	"time"

	"marginalia/api"
)

// call: Web or Mail.
type call func(s string) (int, api.Errno)

type timeCase struct {
	s    string
	want int
}

func testTimes(t *testing.T, read call, cases []timeCase) {
	t.Helper()
	for _, c := range cases {
		if at, e := read(c.s); at != c.want || e != api.OK {
			t.Errorf("%q is %d, %d; must be %d", c.s, at, e, c.want)
		}
	}
}

// testWrong: each of these is answered by that error, and nothing else.
func testWrong(t *testing.T, read call, want api.Errno, l ...string) {
	t.Helper()
	for _, s := range l {
		if at, e := read(s); at != 0 || e != want {
			t.Errorf("%q is %d, %d; must be an error, %d", s, at, e, want)
		}
	}
}

func TestWebG1(t *testing.T) {
	testTimes(t, Web, []timeCase{
		{"1970-01-01T00:00:00Z", 0},
		{"1970-01-01T00:00:01Z", 1},
		{"1970-01-01T00:01:00Z", 60},
		{"1970-01-01T01:00:00Z", 3600},
		{"1970-01-02T00:00:00Z", 86400},
		{"2006-01-02T15:04:05Z", 1136214245},
		{"2006-01-02T15:04:05+00:00", 1136214245},
		{"2006-01-02T15:04:05-00:00", 1136214245},
		{"2006-01-02T15:04:05+01:30", 1136214245 - 5400},
		{"2006-01-02T15:04:05-01:30", 1136214245 + 5400},
		{"2006-01-02T15:04:05+23:59", 1136214245 - 86340},
		{"2006-01-02T15:04:05-23:59", 1136214245 + 86340},
		{"2000-02-29T00:00:00Z", 951782400},
		{"2099-12-31T23:59:59Z", api.MaxAt},
	})
	testWrong(t, Web, api.ErrForm,
		"", " ", "Z", "2006", "2006-01-02", "2006-01-02T15:04Z", "2006-01-02T15:04:05", "2006-01-02T15:04:05.0Z", "2006-01-02T15:04:05,0Z",
		" 2006-01-02T15:04:05Z", "2006-01-02T15:04:05Z ", "2006-01-02T15:04:05 Z", "2006-01-02T15:04:05ZZ", "2006-01-02T15:04:05Z+00:00", "2006-01-02T15:04:05+00:00Z",
		"2006-01-02t15:04:05Z", "2006-01-02T15:04:05z", "2006-01-02 15:04:05Z", "2006/01/02T15:04:05Z", "20060102T150405Z", "2006-1-2T15:04:05Z", "2006-01-02T5:04:05Z", "2006-001-02T15:04:05Z",
		"06-01-02T15:04:05Z", "12006-01-02T15:04:05Z", "02006-01-02T15:04:05Z", "-2006-01-02T15:04:05Z", "+2006-01-02T15:04:05Z", "+006-01-02T15:04:05Z", "2006-+1-02T15:04:05Z", "2006-01-02T-5:04:05Z",
		"2006-01-02T15:04:05+1:00", "2006-01-02T15:04:05+0100", "2006-01-02T15:04:05+01", "2006-01-02T15:04:05+01:0", "2006-01-02T15:04:05+01:000", "2006-01-02T15:04:0501:00", "2006-01-02T15:04:05UT", "2006-01-02T15:04:05GMT",
		"2006-01-02T24:00:00Z", "2006-01-02T15:60:00Z", "2006-01-02T15:04:60Z", "2006-01-02T15:04:05+24:00", "2006-01-02T15:04:05-24:00", "2006-01-02T15:04:05+23:60",
		"２006-01-02T15:04:05Z", "2006-01-02T15:04:05Z\x00", "2006-01-02T15:04:05Z\n", "Mon, 02 Jan 2006 15:04:05 GMT",
	)
}

func TestMailG1(t *testing.T) {
	testTimes(t, Mail, []timeCase{
		{"Thu, 01 Jan 1970 00:00:00 GMT", 0},
		{"1 Jan 1970 00:00:01 UT", 1},
		{"Mon, 02 Jan 2006 15:04:05 GMT", 1136214245},
		{"Mon, 2 Jan 2006 15:04:05 GMT", 1136214245},
		{"02 Jan 2006 15:04:05 GMT", 1136214245},
		{"2 Jan 2006 15:04:05 UT", 1136214245},
		{"fRi, 2 Jan 2006 15:04:05 UT", 1136214245},
		{"xyz, 2 Jan 2006 15:04:05 +0000", 1136214245},
		{"2 Jan 2006 15:04:05 -0000", 1136214245},
		{"2 Jan 2006 15:04:05 +0130", 1136214245 - 5400},
		{"2 Jan 2006 15:04:05 -0130", 1136214245 + 5400},
		{"2 Jan 2006 15:04:05 +2359", 1136214245 - 86340},
		{"2 Jan 2006 15:04:05 -2359", 1136214245 + 86340},
		{"31 Dec 2099 23:59:59 GMT", api.MaxAt},
	})
	testWrong(t, Mail, api.ErrForm,
		"", " ", ", ", "Mon", "Mon,", "Mon, ", "2", "02 Jan 2006", "2 Jan 2006 15:04 GMT", "2 Jan 2006 15:04:05", "2 Jan 2006 15:04:05 ",
		" 2 Jan 2006 15:04:05 GMT", "2 Jan 2006 15:04:05 GMT ", "2 Jan 2006 15:04:05  GMT", "2  Jan 2006 15:04:05 GMT", "2 Jan  2006 15:04:05 GMT", "2 Jan 2006  15:04:05 GMT", "2\tJan 2006 15:04:05 GMT",
		"Mon,2 Jan 2006 15:04:05 GMT", "Mon 2 Jan 2006 15:04:05 GMT", "Mon,  2 Jan 2006 15:04:05 GMT", ", 2 Jan 2006 15:04:05 GMT", "Mo, 2 Jan 2006 15:04:05 GMT", "Mond, 2 Jan 2006 15:04:05 GMT", "M0n, 2 Jan 2006 15:04:05 GMT", "Mon, Mon, 2 Jan 2006 15:04:05 GMT", "M\xf6n, 2 Jan 2006 15:04:05 GMT",
		"002 Jan 2006 15:04:05 GMT", "+2 Jan 2006 15:04:05 GMT", "Jan 2006 15:04:05 GMT", "Mon, Jan 2006 15:04:05 GMT", "x2 Jan 2006 15:04:05 GMT",
		"2 jan 2006 15:04:05 GMT", "2 JAN 2006 15:04:05 GMT", "2 Ja 2006 15:04:05 GMT", "2 January 2006 15:04:05 GMT", "2 anF 2006 15:04:05 GMT", "2 01 2006 15:04:05 GMT", "2-Jan-2006 15:04:05 GMT",
		"2 Jan 06 15:04:05 GMT", "2 Jan 12006 15:04:05 GMT", "2 Jan 2006 5:04:05 GMT", "2 Jan 2006 150405 GMT", "2 Jan 2006T15:04:05 GMT",
		"2 Jan 2006 15:04:05 gmt", "2 Jan 2006 15:04:05 ut", "2 Jan 2006 15:04:05 UTC", "2 Jan 2006 15:04:05 Z", "2 Jan 2006 15:04:05 EST", "2 Jan 2006 15:04:05 GMT+0000", "2 Jan 2006 15:04:05GMT", "2 Jan 2006 15:04:05+0000",
		"2 Jan 2006 15:04:05 +00:00", "2 Jan 2006 15:04:05 +000", "2 Jan 2006 15:04:05 +00000", "2 Jan 2006 15:04:05 0000", "2 Jan 2006 15:04:05 +0000 (x)",
		"2 Jan 2006 24:00:00 GMT", "2 Jan 2006 15:60:00 GMT", "2 Jan 2006 15:04:60 GMT", "2 Jan 2006 15:04:05 +2400", "2 Jan 2006 15:04:05 -2400", "2 Jan 2006 15:04:05 +2360",
		"2006-01-02T15:04:05Z",
	)
}

func TestNoSuchDayG1(t *testing.T) {
	testWrong(t, Web, api.ErrRange,
		"2006-00-02T15:04:05Z", "2006-13-02T15:04:05Z", "2006-99-02T15:04:05Z", "2006-01-00T15:04:05Z", "2006-01-32T15:04:05Z", "2006-04-31T15:04:05Z", "2006-12-99T15:04:05Z",
		"2006-02-29T15:04:05Z", "2100-02-29T00:00:00Z", "1900-02-29T00:00:00Z", "2024-02-30T00:00:00Z",
		"1969-12-32T00:00:00Z", "2100-01-00T00:00:00Z", "1970-01-00T23:00:00-01:00", // no day, however near to one
	)
	testWrong(t, Mail, api.ErrRange,
		"0 Jan 2006 15:04:05 GMT", "00 Jan 2006 15:04:05 GMT", "32 Jan 2006 15:04:05 GMT", "99 Dec 2006 15:04:05 GMT", "31 Apr 2006 15:04:05 GMT", "Sun, 29 Feb 2006 15:04:05 GMT", "29 Feb 2100 00:00:00 GMT",
	)
	// What is not of its form is told ahead of a day that is none.
	testWrong(t, Web, api.ErrForm, "2006-13-02T24:04:05Z", "2006-02-30T15:04:05", "2006-00-00T15:04:05+24:00", "1900-01-01T15:04:05Zx")
	testWrong(t, Mail, api.ErrForm, "32 Jan 2006 24:04:05 GMT", "0 Jan 2006 15:04:05", "29 Feb 1900 15:04:05 +0060")
}

func TestNotToldG1(t *testing.T) {
	testTimes(t, Web, []timeCase{
		{"1970-01-01T00:01:00+00:01", 0},
		{"1969-12-31T23:59:00-00:01", 0},
		{"1969-12-31T00:01:00-23:59", 0},
		{"1969-12-31T23:59:59-00:01", 59},
		{"2099-12-31T23:58:59-00:01", api.MaxAt},
		{"2100-01-01T00:00:59+00:01", api.MaxAt},
		{"2100-01-01T23:58:59+23:59", api.MaxAt},
	})
	testWrong(t, Web, api.ErrRange,
		"1969-12-31T23:59:59Z", "1970-01-01T00:00:59+00:01", "1969-12-31T23:58:59-00:01", "1969-12-31T00:00:59-23:59", "1969-12-30T23:59:59-23:59", "0000-01-01T00:00:00Z", "0000-02-29T00:00:00Z", "0001-01-01T00:00:00Z", "1969-01-01T00:00:00Z",
		"2100-01-01T00:00:00Z", "2099-12-31T23:59:00-00:01", "2100-01-01T00:01:00+00:01", "2100-01-01T23:59:00+23:59", "2100-01-02T00:00:00+23:59", "2106-02-07T06:28:16Z", "9999-12-31T23:59:59Z", "9999-12-31T23:59:59-23:59",
	)
	testTimes(t, Mail, []timeCase{
		{"31 Dec 1969 23:59:00 -0001", 0},
		{"1 Jan 2100 00:00:59 +0001", api.MaxAt},
	})
	testWrong(t, Mail, api.ErrRange, "31 Dec 1969 23:59:59 GMT", "1 Jan 1970 00:00:59 +0001", "1 Jan 2100 00:00:00 UT", "31 Dec 2099 23:59:00 -0001", "1 Jan 0000 00:00:00 GMT", "31 Dec 9999 23:59:59 GMT")
}

func TestPrintG1(t *testing.T) {
	for at, want := range map[int]string{
		0: "1970-01-01T00:00:00Z", 1: "1970-01-01T00:00:01Z", 59: "1970-01-01T00:00:59Z", 60: "1970-01-01T00:01:00Z", 86399: "1970-01-01T23:59:59Z", 86400: "1970-01-02T00:00:00Z",
		951782399: "2000-02-28T23:59:59Z", 951782400: "2000-02-29T00:00:00Z", 951868800: "2000-03-01T00:00:00Z", 1136214245: "2006-01-02T15:04:05Z", api.MaxAt: "2099-12-31T23:59:59Z",
	} {
		if s, e := Print(at); s != want || e != api.OK {
			t.Errorf("Print(%d) = %q, %d; must be %q", at, s, e, want)
		}
	}
	for _, at := range []int{-1, -86400, api.MaxAt + 1, 1 << 62, -1 << 63, 1<<63 - 1} {
		if s, e := Print(at); s != "" || e != api.ErrRange {
			t.Errorf("Print(%d) = %q, %d", at, s, e)
		}
	}
}

// All days that may be told, at their first second, their last one, and one between; those just ahead and behind too.
func TestEveryDayG1G2P3(t *testing.T) {
	const day = 86400
	for d := -400; d < (api.MaxAt+1)/day+400; d++ {
		for _, at := range []int{d * day, d*day + (d*d*7919)%day, d*day + day - 1} {
			then := time.Unix(int64(at), 0).UTC()
			web, mail := then.Format("2006-01-02T15:04:05Z"), then.Format("Mon, 2 Jan 2006 15:04:05 GMT")
			want, err := at, api.OK
			if at < 0 || at > api.MaxAt {
				want, web, err = 0, "", api.ErrRange
			}
			if s, e := Print(at); s != web || e != err {
				t.Fatalf("Print(%d) = %q, %d; must be %q, %d", at, s, e, web, err)
			}
			if got, e := Web(then.Format("2006-01-02T15:04:05Z")); got != want || e != err {
				t.Fatalf("Web of %v is %d, %d; must be %d, %d", then, got, e, want, err)
			}
			if got, e := Mail(mail); got != want || e != err {
				t.Fatalf("Mail of %q is %d, %d; must be %d, %d", mail, got, e, want, err)
			}
		}
	}
}

func TestEverySecondOfADayG1G2(t *testing.T) {
	for at := 951782400; at < 951868800; at++ {
		s, e := Print(at)
		if got, f := Web(s); got != at || e != api.OK || f != api.OK {
			t.Fatalf("%d is printed %q, %d, and read %d, %d", at, s, e, got, f)
		}
	}
}

// Numbers of any two digits, wherever two stand; of months and days in all years around those that may be told.
func TestEveryNumberG1(t *testing.T) {
	for n := range 100 {
		two := fmt.Sprintf("%02d", n)
		for _, s := range []string{"T%s:04:05Z", "T15:%s:05Z", "T15:04:%sZ", "T15:04:05+%s:30", "T15:04:05-%s:30", "T15:04:05+01:%s", "T15:04:05-01:%s"} {
			testAgainstWebForm(t, "2006-01-02"+fmt.Sprintf(s, two))
		}
		for _, s := range []string{"%s:04:05 GMT", "15:%s:05 UT", "15:04:%s GMT", "15:04:05 +%s30", "15:04:05 -%s30", "15:04:05 +01%s", "15:04:05 -01%s"} {
			testAgainstMailForm(t, "2 Jan 2006 "+fmt.Sprintf(s, two))
		}
	}
	for _, year := range []int{0, 4, 100, 400, 1600, 1900, 1968, 1969, 1970, 1972, 1999, 2000, 2001, 2023, 2024, 2096, 2099, 2100, 2101, 2400, 9999} {
		for month := range 100 {
			for day := range 100 {
				testAgainstWebForm(t, fmt.Sprintf("%04d-%02d-%02dT12:00:00Z", year, month, day))
			}
		}
		for month := range 12 {
			for day := range 100 {
				testAgainstMailForm(t, fmt.Sprintf("%d %s %04d 12:00:00 GMT", day, time.Month(month + 1).String()[:3], year))
			}
		}
	}
}

// Texts that are nearly right: each byte by another one, without it, and with another one ahead.
func TestNearlyRightG1P1(t *testing.T) {
	spoilt := func(s string, test func(t *testing.T, s string)) {
		for i := range len(s) + 1 {
			test(t, s[:i])
			for c := range 256 {
				sign := string([]byte{byte(c)})
				test(t, s[:i]+sign+s[i:])
				if i < len(s) {
					test(t, s[:i]+sign+s[i+1:])
				}
			}
			if i < len(s) {
				test(t, s[:i]+s[i+1:])
				test(t, s[i:])
			}
		}
	}
	for _, s := range []string{"2006-01-02T15:04:05Z", "2024-02-29T23:59:59+01:30", "1999-10-30T20:19:01-09:08"} {
		spoilt(s, testAgainstWebForm)
	}
	for _, s := range []string{"Mon, 02 Jan 2006 15:04:05 GMT", "2 Mar 2024 23:59:59 UT", "Xyz, 29 Feb 2000 15:04:05 +0130", "30 Sep 1999 20:19:01 -0908"} {
		spoilt(s, testAgainstMailForm)
	}
}

var (
	webForm  = regexp.MustCompile(`^(\d{4})-(\d\d)-(\d\d)T([01]\d|2[0-3]):([0-5]\d):([0-5]\d)(?:Z|([+-])([01]\d|2[0-3]):([0-5]\d))\z`)
	mailForm = regexp.MustCompile(`^(?:[a-zA-Z]{3}, )?(\d\d?) (Jan|Feb|Mar|Apr|May|Jun|Jul|Aug|Sep|Oct|Nov|Dec) (\d{4}) ([01]\d|2[0-3]):([0-5]\d):([0-5]\d) (?:GMT|UT|([+-])([01]\d|2[0-3])([0-5]\d))\z`)
)

func testAgainstWebForm(t *testing.T, s string) {
	t.Helper()
	testAgainst(t, Web, s, webForm.FindStringSubmatch(s))
}

func testAgainstMailForm(t *testing.T, s string) {
	t.Helper()
	parts := mailForm.FindStringSubmatch(s)
	if parts != nil {
		month := strings.Index("JanFebMarAprMayJunJulAugSepOctNovDec", parts[2])/3 + 1
		parts[1], parts[2], parts[3] = parts[3], strconv.Itoa(month), parts[1]
	}
	testAgainst(t, Mail, s, parts)
}

// testAgainst the library's calendar: parts are a year, a month, a day, hours, minutes, seconds, a sign, hours and minutes; none if the text is not of its form.
func testAgainst(t *testing.T, read call, s string, parts []string) {
	t.Helper()
	want, err := 0, api.ErrForm
	if parts != nil {
		n := [10]int{}
		for i := range n {
			n[i], _ = strconv.Atoi(parts[i])
		}
		then := time.Date(n[1], time.Month(n[2]), n[3], n[4], n[5], n[6], 0, time.UTC)
		ahead := n[8]*3600 + n[9]*60
		if parts[7] == "-" {
			ahead = -ahead
		}
		want, err = int(then.Unix())-ahead, api.OK
		if int(then.Month()) != n[2] || then.Day() != n[3] || want < 0 || want > api.MaxAt {
			want, err = 0, api.ErrRange
		}
	}
	if got, e := read(s); got != want || e != err {
		t.Fatalf("%q is %d, %d; must be %d, %d", s, got, e, want, err)
	}
}

func TestLongTextsP1(t *testing.T) {
	for _, s := range []string{strings.Repeat("0", 1<<20), strings.Repeat("a", 1<<20), strings.Repeat(" ", 1<<20), "2006-01-02T15:04:05Z" + strings.Repeat("Z", 1<<20), "2 Jan 2006 15:04:05 GMT" + strings.Repeat(" ", 1<<20)} {
		testWrong(t, Web, api.ErrForm, s)
		testWrong(t, Mail, api.ErrForm, s)
	}
}
