package tests

import (
	"math"
	"regexp"
	"strconv"
	"strings"
	"testing"
	"time"

	"loop.example/g00268/impl"
)

const (
	daySeconds = 86400
	allDays    = (impl.MaxStamp + 1) / daySeconds
)

var (
	rfc3339Pattern = regexp.MustCompile(`^([0-9]{4}-[0-9]{2}-[0-9]{2}T[0-9]{2}:[0-9]{2}:[0-9]{2})(?:\.[0-9]+)?(?:Z|([+-])([01][0-9]|2[0-3]):([0-5][0-9]))$`)
	rfc822Pattern  = regexp.MustCompile(`^(?:([A-Z][a-z]{2}), )?([0-9]{1,2} [A-Z][a-z]{2} [0-9]{4} [0-9]{2}:[0-9]{2}:[0-9]{2}) (?:GMT|UT|([+-])([01][0-9]|2[0-3])([0-5][0-9]))$`)

	weekdays = []string{"Sun", "Mon", "Tue", "Wed", "Thu", "Fri", "Sat"}
	months   = []string{"Jan", "Feb", "Mar", "Apr", "May", "Jun", "Jul", "Aug", "Sep", "Oct", "Nov", "Dec"}
)

func civil(year, month, day, hour, minute, second int) impl.Civil {
	return impl.Civil{Year: year, Month: month, Day: day, Hour: hour, Minute: minute, Second: second}
}

// civilOf is the library's calendar of a moment.
func civilOf(x time.Time) impl.Civil {
	return civil(x.Year(), int(x.Month()), x.Day(), x.Hour(), x.Minute(), x.Second())
}

// stampOf is the library's stamp of a calendar, which it would take from any other day and clock too.
func stampOf(c impl.Civil) (int, bool) {
	for _, n := range []int{c.Year, c.Month, c.Day, c.Hour, c.Minute, c.Second} {
		if n < 0 || n > 9999 {
			return 0, false
		}
	}
	x := time.Date(c.Year, time.Month(c.Month), c.Day, c.Hour, c.Minute, c.Second, 0, time.UTC)
	return int(x.Unix()), civilOf(x) == c && c.Year >= 1970 && c.Year <= 2099
}

// inZone is what is told of a moment, whose zone is a sign and digits or none.
func inZone(x time.Time, sign, hours, minutes string) (int, int) {
	h, _ := strconv.Atoi(hours)
	m, _ := strconv.Atoi(minutes)
	stamp := int(x.Unix())
	switch sign {
	case "+":
		stamp -= h*3600 + m*60
	case "-":
		stamp += h*3600 + m*60
	}
	if stamp < 0 || stamp > impl.MaxStamp {
		return 0, impl.ErrRange
	}
	return stamp, impl.OK
}

func read3339(t string) (int, int) {
	if len(t) > impl.MaxText {
		return 0, impl.ErrLong
	}
	m := rfc3339Pattern.FindStringSubmatch(t)
	if m == nil {
		return 0, impl.ErrForm
	}
	x, err := time.Parse("2006-01-02T15:04:05", m[1])
	if err != nil || x.Year() < 1970 || x.Year() > 2099 {
		return 0, impl.ErrForm
	}
	return inZone(x, m[2], m[3], m[4])
}

func read822(t string) (int, int) {
	if len(t) > impl.MaxText {
		return 0, impl.ErrLong
	}
	m := rfc822Pattern.FindStringSubmatch(t)
	if m == nil {
		return 0, impl.ErrForm
	}
	x, err := time.Parse("2 Jan 2006 15:04:05", m[2])
	if err != nil || x.Year() < 1970 || x.Year() > 2099 || m[1] != "" && m[1] != x.Format("Mon") {
		return 0, impl.ErrForm
	}
	return inZone(x, m[3], m[4], m[5])
}

func checkRead3339(t *testing.T, x string) {
	t.Helper()
	want, wantCode := read3339(x)
	if got, code := impl.ReadRfc3339(x); got != want || code != wantCode {
		t.Errorf("ReadRfc3339(%q) = %d, %d, not %d, %d", brief(x), got, code, want, wantCode)
	}
}

func checkRead822(t *testing.T, x string) {
	t.Helper()
	want, wantCode := read822(x)
	if got, code := impl.ReadRfc822(x); got != want || code != wantCode {
		t.Errorf("ReadRfc822(%q) = %d, %d, not %d, %d", brief(x), got, code, want, wantCode)
	}
}

func checkCivil(t *testing.T, c impl.Civil) {
	t.Helper()
	want, ok := stampOf(c)
	wantCode := impl.OK
	if !ok {
		want, wantCode = 0, impl.ErrBad
	}
	if got := impl.CivilOK(c); got != ok {
		t.Errorf("CivilOK(%v) = %v", c, got)
	}
	if got, code := impl.StampOf(c); got != want || code != wantCode {
		t.Errorf("StampOf(%v) = %d, %d, not %d, %d", c, got, code, want, wantCode)
	}
}

func checkStamp(t *testing.T, n int) {
	t.Helper()
	x := time.Unix(int64(n), 0).UTC()
	want := civilOf(x)
	if c, code := impl.CivilOf(n); c != want || code != impl.OK {
		t.Errorf("CivilOf(%d) = %v, %d, not %v", n, c, code, want)
	}
	if back, code := impl.StampOf(want); back != n || code != impl.OK || !impl.CivilOK(want) {
		t.Errorf("StampOf(%v) = %d, %d, not %d", want, back, code, n)
	}
	if w, code := impl.WeekdayOf(n); w != int(x.Weekday()) || code != impl.OK {
		t.Errorf("WeekdayOf(%d) = %d, %d", n, w, code)
	}
	date := x.Format("2006-01-02T15:04:05Z")
	if s, code := impl.Rfc3339Text(n); s != date || code != impl.OK {
		t.Errorf("Rfc3339Text(%d) = %q, %d, not %q", n, s, code, date)
	}
	if back, code := impl.ReadRfc3339(date); back != n || code != impl.OK {
		t.Errorf("ReadRfc3339(%q) = %d, %d, not %d", date, back, code, n)
	}
	date = x.Format("Mon, 02 Jan 2006 15:04:05 +0000")
	if s, code := impl.Rfc822Text(n); s != date || code != impl.OK {
		t.Errorf("Rfc822Text(%d) = %q, %d, not %q", n, s, code, date)
	}
	if back, code := impl.ReadRfc822(date); back != n || code != impl.OK {
		t.Errorf("ReadRfc822(%q) = %d, %d, not %d", date, back, code, n)
	}
}

func TestStampsOfEachDay(t *testing.T) {
	for day := range allDays {
		for _, second := range []int{0, day * 7919 % daySeconds, daySeconds - 1} {
			checkStamp(t, day*daySeconds+second)
		}
	}
}

func TestStampsOfEachSecond(t *testing.T) {
	for _, day := range []int{0, 11016, allDays - 1} {
		for second := range daySeconds {
			checkStamp(t, day*daySeconds+second)
		}
	}
}

func TestNoStamps(t *testing.T) {
	for _, n := range []int{-1, -2, -daySeconds, impl.MaxStamp + 1, impl.MaxStamp + daySeconds, 1 << 33, math.MaxInt, math.MaxInt - 1, math.MinInt, math.MinInt + 1} {
		if c, code := impl.CivilOf(n); c != (impl.Civil{}) || code != impl.ErrRange {
			t.Errorf("CivilOf(%d) = %v, %d", n, c, code)
		}
		if w, code := impl.WeekdayOf(n); w != 0 || code != impl.ErrRange {
			t.Errorf("WeekdayOf(%d) = %d, %d", n, w, code)
		}
		if s, code := impl.Rfc3339Text(n); s != "" || code != impl.ErrRange {
			t.Errorf("Rfc3339Text(%d) = %q, %d", n, s, code)
		}
		if s, code := impl.Rfc822Text(n); s != "" || code != impl.ErrRange {
			t.Errorf("Rfc822Text(%d) = %q, %d", n, s, code)
		}
	}
}

// What the document says of the bounds, in its own words.
func TestFirstAndLastStamp(t *testing.T) {
	if impl.MaxStamp != 4102444799 {
		t.Error("MaxStamp is", impl.MaxStamp)
	}
	first, last := civil(1970, 1, 1, 0, 0, 0), civil(2099, 12, 31, 23, 59, 59)
	for n, c := range map[int]impl.Civil{0: first, impl.MaxStamp: last} {
		if got, code := impl.CivilOf(n); got != c || code != impl.OK {
			t.Error("CivilOf", n, got, code)
		}
		if got, code := impl.StampOf(c); got != n || code != impl.OK {
			t.Error("StampOf", c, got, code)
		}
	}
	for n, want := range map[int]int{0: 4, daySeconds - 1: 4, daySeconds: 5, 3 * daySeconds: 0, impl.MaxStamp: 4, impl.MaxStamp - daySeconds: 3} {
		if w, code := impl.WeekdayOf(n); w != want || code != impl.OK {
			t.Error("WeekdayOf", n, w, code)
		}
	}
	for n, want := range map[int][2]string{
		0:             {"1970-01-01T00:00:00Z", "Thu, 01 Jan 1970 00:00:00 +0000"},
		impl.MaxStamp: {"2099-12-31T23:59:59Z", "Thu, 31 Dec 2099 23:59:59 +0000"},
		1577934245:    {"2020-01-02T03:04:05Z", "Thu, 02 Jan 2020 03:04:05 +0000"},
	} {
		short, _ := impl.Rfc3339Text(n)
		long, _ := impl.Rfc822Text(n)
		if short != want[0] || long != want[1] {
			t.Error("the texts of", n, "are", short, "and", long)
		}
	}
}

func TestWeekdaysGoOn(t *testing.T) {
	for day := range allDays - 1 {
		today, _ := impl.WeekdayOf(day * daySeconds)
		late, _ := impl.WeekdayOf(day*daySeconds + daySeconds - 1)
		next, _ := impl.WeekdayOf((day + 1) * daySeconds)
		if today != late || next != (today+1)%7 {
			t.Error("the days of the week from day", day, "on:", today, late, next)
		}
	}
}

func TestCalendarDays(t *testing.T) {
	for year := 1965; year <= 2105; year++ {
		for month := -1; month <= 14; month++ {
			for day := -1; day <= 33; day++ {
				checkCivil(t, civil(year, month, day, max(day, 0)%24, year%60, 59))
			}
		}
	}
	for year, leap := range map[int]bool{1972: true, 2000: true, 2096: true, 1970: false, 1999: false, 2001: false, 2098: false, 2099: false, 1968: false, 2100: false, 2104: false} {
		if got := impl.CivilOK(impl.Civil{Year: year, Month: 2, Day: 29}); got != leap {
			t.Error("29 February in", year, "is", got)
		}
	}
}

func TestCalendarNumbers(t *testing.T) {
	odd := []int{math.MinInt, math.MinInt + 1, -1 << 32, -4000, -100, -1, 0, 1, 2, 12, 13, 23, 24, 25, 28, 31, 32, 59, 60, 61, 1969, 1970, 2000, 2099, 2100, 1<<32 + 1, math.MaxInt - 1, math.MaxInt}
	right := civil(2000, 2, 29, 23, 59, 59)
	for _, n := range odd {
		for i := range 6 {
			for _, m := range odd {
				for j := range 6 {
					c := right
					fields := []*int{&c.Year, &c.Month, &c.Day, &c.Hour, &c.Minute, &c.Second}
					*fields[i], *fields[j] = n, m
					checkCivil(t, c)
				}
			}
		}
	}
	for _, hour := range []int{-1, 0, 23, 24, 59, 60} {
		for _, minute := range []int{-1, 0, 23, 24, 59, 60} {
			for _, second := range []int{-1, 0, 23, 24, 59, 60} {
				for _, day := range []impl.Civil{{Year: 1970, Month: 1, Day: 1}, {Year: 2099, Month: 12, Day: 31}, right} {
					day.Hour, day.Minute, day.Second = hour, minute, second
					checkCivil(t, day)
				}
			}
		}
	}
}

// The last second of a day, a month and a year, and the first one of the next.
func TestNextSeconds(t *testing.T) {
	for last, next := range map[impl.Civil]impl.Civil{
		civil(2000, 2, 28, 23, 59, 59):  civil(2000, 2, 29, 0, 0, 0),
		civil(2000, 2, 29, 23, 59, 59):  civil(2000, 3, 1, 0, 0, 0),
		civil(2001, 2, 28, 23, 59, 59):  civil(2001, 3, 1, 0, 0, 0),
		civil(1972, 2, 29, 23, 59, 59):  civil(1972, 3, 1, 0, 0, 0),
		civil(2096, 2, 29, 23, 59, 59):  civil(2096, 3, 1, 0, 0, 0),
		civil(1999, 12, 31, 23, 59, 59): civil(2000, 1, 1, 0, 0, 0),
		civil(1970, 12, 31, 23, 59, 59): civil(1971, 1, 1, 0, 0, 0),
		civil(2098, 12, 31, 23, 59, 59): civil(2099, 1, 1, 0, 0, 0),
		civil(2024, 4, 30, 23, 59, 59):  civil(2024, 5, 1, 0, 0, 0),
		civil(2024, 7, 31, 23, 59, 59):  civil(2024, 8, 1, 0, 0, 0),
		civil(2024, 7, 31, 22, 59, 59):  civil(2024, 7, 31, 23, 0, 0),
		civil(2024, 7, 31, 22, 58, 59):  civil(2024, 7, 31, 22, 59, 0),
	} {
		from, code := impl.StampOf(last)
		to, nextCode := impl.StampOf(next)
		if to != from+1 || code != impl.OK || nextCode != impl.OK {
			t.Error(last, "is", from, "and", next, "is", to)
		}
		if c, _ := impl.CivilOf(from + 1); c != next {
			t.Error("behind", last, "comes", c)
		}
	}
}

func TestRfc3339Texts(t *testing.T) {
	for x, want := range map[string][2]int{
		"2020-01-02T03:04:05Z":                   {1577934245, impl.OK},
		"2020-01-02T03:04:05.0Z":                 {1577934245, impl.OK},
		"2020-01-02T03:04:05.999999999999999Z":   {1577934245, impl.OK},
		"2020-01-02T03:04:05.123456789012+00:00": {1577934245, impl.OK},
		"2020-01-02T03:04:05-00:00":              {1577934245, impl.OK},
		"2020-01-02T04:04:05+01:00":              {1577934245, impl.OK},
		"2020-01-03T03:03:05+23:59":              {1577934245, impl.OK},
		"2020-01-01T03:05:05-23:59":              {1577934245, impl.OK},
		"1970-01-01T00:00:00.9Z":                 {0, impl.OK},
		"1970-01-01T23:59:00+23:59":              {0, impl.OK},
		"1970-01-01T23:58:59+23:59":              {0, impl.ErrRange},
		"1970-01-01T00:00:59.9+00:01":            {0, impl.ErrRange},
		"2099-12-31T23:59:59.9Z":                 {impl.MaxStamp, impl.OK},
		"2099-12-31T00:00:59-23:59":              {impl.MaxStamp, impl.OK},
		"2099-12-31T00:01:00-23:59":              {0, impl.ErrRange},
		"2099-12-31T23:59:59-00:01":              {0, impl.ErrRange},
		"2100-01-01T00:00:00+00:01":              {0, impl.ErrForm},
		"1969-12-31T23:59:59-00:01":              {0, impl.ErrForm},
		"2100-01-01T00:00:00Z":                   {0, impl.ErrForm},
		"1969-12-31T23:59:59Z":                   {0, impl.ErrForm},
		"0000-00-00T00:00:00Z":                   {0, impl.ErrForm},
		"9999-12-31T23:59:59Z":                   {0, impl.ErrForm},
		"2001-02-29T00:00:00Z":                   {0, impl.ErrForm},
		"2020-00-02T03:04:05Z":                   {0, impl.ErrForm},
		"2020-13-02T03:04:05Z":                   {0, impl.ErrForm},
		"2020-01-00T03:04:05Z":                   {0, impl.ErrForm},
		"2020-04-31T03:04:05Z":                   {0, impl.ErrForm},
		"2020-01-02T24:00:00Z":                   {0, impl.ErrForm},
		"2020-01-02T23:60:00Z":                   {0, impl.ErrForm},
		"2016-12-31T23:59:60Z":                   {0, impl.ErrForm},
	} {
		if n, code := impl.ReadRfc3339(x); n != want[0] || code != want[1] {
			t.Errorf("ReadRfc3339(%q) = %d, %d, not %d", x, n, code, want)
		}
		checkRead3339(t, x)
	}
}

func TestNoRfc3339Texts(t *testing.T) {
	for _, x := range []string{
		"", "Z", "T", ".", "+", "2020", "2020-01-02", "2020-01-02T03:04Z", "2020-01-02T03:04:05", "2020-01-02T03:04:05.5", "2020-01-02T03:04:05+", "2020-01-02T03:04:05+01", "2020-01-02T03:04:05+01:", "2020-01-02T03:04:05+01:0",
		"2020-01-02t03:04:05Z", "2020-01-02T03:04:05z", "2020-01-02 03:04:05Z", "2020-01-02T03:04:05 Z", " 2020-01-02T03:04:05Z", "2020-01-02T03:04:05Z ", "2020-01-02T03:04:05Z\r\n", "2020-01-02T03:04:05Z\x00", "2020-01-02T03:04:05ZZ",
		"2020-01-02T03:04:05.Z", "2020-01-02T03:04:05.+01:00", "2020-01-02T03:04:05..5Z", "2020-01-02T03:04:05.5.5Z", "2020-01-02T03:04:05,5Z", "2020-01-02T03:04:05.5x", "2020-01-02T03:04:05.-5Z", "2020-01-02T03:04:05.5 Z", "2020-01-02T03:04:055Z", "2020-01-02T03:04.5:05Z",
		"2020-01-02T03:04:05+0100", "2020-01-02T03:04:05+1:00", "2020-01-02T03:04:05+01:000", "2020-01-02T03:04:05+001:00", "2020-01-02T03:04:05+24:00", "2020-01-02T03:04:05-24:00", "2020-01-02T03:04:05+23:60", "2020-01-02T03:04:05+99:99", "2020-01-02T03:04:05+01-00", "2020-01-02T03:04:05+-1:00", "2020-01-02T03:04:05\u221201:00", "2020-01-02T03:04:05 01:00", "2020-01-02T03:04:0501:00", "2020-01-02T03:04:05*01:00", "2020-01-02T03:04:05,01:00",
		"2020-01-02T03:04:05GMT", "2020-01-02T03:04:05UT", "2020-01-02T03:04:05Z+01:00", "2020-01-02T03:04:05+01:00Z",
		"20-01-02T03:04:05Z", "02020-01-02T03:04:05Z", "+2020-01-02T03:04:05Z", "-020-01-02T03:04:05Z", "2020-1-02T03:04:05Z", "2020-01-2T03:04:05Z", "2020-01-02T3:04:05Z", "2020-001-02T03:04:05Z", "2020/01/02T03:04:05Z", "2020-01-02T03.04.05Z", "20200102T030405Z", "2020-+1-02T03:04:05Z", "2020- 1-02T03:04:05Z", "2020-01-02T03:-4:05Z", "2020-01-02T0x:04:05Z",
		"\u0662\u0660\u0662\u0660-01-02T03:04:05Z", "2020-01-02T03:04:0\u0665Z", "2020-01-02T03:04:05.\u0665Z", "2020-01-02T03:04:05.5\xffZ", "Thu, 02 Jan 2020 03:04:05 +0000",
	} {
		if n, code := impl.ReadRfc3339(x); n != 0 || code != impl.ErrForm {
			t.Errorf("ReadRfc3339(%q) = %d, %d", x, n, code)
		}
		checkRead3339(t, x)
	}
}

func TestRfc822Texts(t *testing.T) {
	for x, want := range map[string][2]int{
		"Thu, 02 Jan 2020 03:04:05 +0000": {1577934245, impl.OK},
		"Thu, 2 Jan 2020 03:04:05 +0000":  {1577934245, impl.OK},
		"02 Jan 2020 03:04:05 +0000":      {1577934245, impl.OK},
		"2 Jan 2020 03:04:05 -0000":       {1577934245, impl.OK},
		"2 Jan 2020 03:04:05 GMT":         {1577934245, impl.OK},
		"Thu, 02 Jan 2020 03:04:05 GMT":   {1577934245, impl.OK},
		"Thu, 02 Jan 2020 03:04:05 UT":    {1577934245, impl.OK},
		"Thu, 02 Jan 2020 04:34:05 +0130": {1577934245, impl.OK},
		"Fri, 03 Jan 2020 03:03:05 +2359": {1577934245, impl.OK},
		"Wed, 1 Jan 2020 03:05:05 -2359":  {1577934245, impl.OK},
		"Thu, 03 Jan 2020 03:03:05 +2359": {0, impl.ErrForm},
		"Wed, 02 Jan 2020 03:04:05 GMT":   {0, impl.ErrForm},
		"Fri, 02 Jan 2020 03:04:05 GMT":   {0, impl.ErrForm},
		"Thu, 1 Jan 1970 00:00:00 GMT":    {0, impl.OK},
		"Thu, 1 Jan 1970 23:59:00 +2359":  {0, impl.OK},
		"Thu, 1 Jan 1970 23:58:59 +2359":  {0, impl.ErrRange},
		"1 Jan 1970 00:00:00 +0001":       {0, impl.ErrRange},
		"Fri, 1 Jan 1970 00:00:00 +0001":  {0, impl.ErrForm},
		"Thu, 31 Dec 2099 23:59:59 UT":    {impl.MaxStamp, impl.OK},
		"Thu, 31 Dec 2099 00:00:59 -2359": {impl.MaxStamp, impl.OK},
		"Thu, 31 Dec 2099 00:01:00 -2359": {0, impl.ErrRange},
		"31 Dec 2099 23:59:59 -0001":      {0, impl.ErrRange},
		"Wed, 31 Dec 2099 23:59:59 -0001": {0, impl.ErrForm},
		"1 Jan 2100 00:00:00 +0001":       {0, impl.ErrForm},
		"31 Dec 1969 23:59:59 -0001":      {0, impl.ErrForm},
		"29 Feb 2001 00:00:00 GMT":        {0, impl.ErrForm},
		"Thu, 29 Feb 2001 00:00:00 GMT":   {0, impl.ErrForm},
		"0 Jan 2020 03:04:05 GMT":         {0, impl.ErrForm},
		"00 Jan 2020 03:04:05 GMT":        {0, impl.ErrForm},
		"32 Jan 2020 03:04:05 GMT":        {0, impl.ErrForm},
		"31 Apr 2020 03:04:05 GMT":        {0, impl.ErrForm},
		"2 Jan 2020 24:00:00 GMT":         {0, impl.ErrForm},
		"2 Jan 2020 23:60:00 GMT":         {0, impl.ErrForm},
		"31 Dec 2016 23:59:60 GMT":        {0, impl.ErrForm},
	} {
		if n, code := impl.ReadRfc822(x); n != want[0] || code != want[1] {
			t.Errorf("ReadRfc822(%q) = %d, %d, not %d", x, n, code, want)
		}
		checkRead822(t, x)
	}
}

func TestNoRfc822Texts(t *testing.T) {
	for _, x := range []string{
		"", " ", ", ", "Thu", "Thu,", "Thu, ", "2", "2 Jan", "2 Jan 2020", "2 Jan 2020 03:04:05", "2 Jan 2020 03:04:05 ", "Thu, 02 Jan 2020 03:04:05", "2 Jan 2020 03:04 GMT", "2 Jan 2020 03:04:05 +", "2 Jan 2020 03:04:05 +000", "    ",
		"Thu,02 Jan 2020 03:04:05 GMT", "Thu,  02 Jan 2020 03:04:05 GMT", "Thu 02 Jan 2020 03:04:05 GMT", "Thu., 02 Jan 2020 03:04:05 GMT", "thu, 02 Jan 2020 03:04:05 GMT", "THU, 02 Jan 2020 03:04:05 GMT", "Thursday, 02 Jan 2020 03:04:05 GMT", "Th, 02 Jan 2020 03:04:05 GMT", ", 02 Jan 2020 03:04:05 GMT", "Thu, Thu, 02 Jan 2020 03:04:05 GMT", "Xyz, 02 Jan 2020 03:04:05 GMT", "Jan, 02 Jan 2020 03:04:05 GMT", " Thu, 02 Jan 2020 03:04:05 GMT",
		" 02 Jan 2020 03:04:05 GMT", "02 Jan 2020 03:04:05 GMT ", "02 Jan 2020 03:04:05 GMT\r\n", "02  Jan 2020 03:04:05 GMT", "02 Jan  2020 03:04:05 GMT", "02 Jan 2020  03:04:05 GMT", "02 Jan 2020 03:04:05  GMT", "02\tJan 2020 03:04:05 GMT", "02-Jan-2020 03:04:05 GMT", "02 Jan, 2020 03:04:05 GMT", "02 Jan 2020, 03:04:05 GMT", "02 Jan 2020 03:04:05, GMT",
		"002 Jan 2020 03:04:05 GMT", " 2 Jan 2020 03:04:05 GMT", "+2 Jan 2020 03:04:05 GMT", "x2 Jan 2020 03:04:05 GMT", "x Jan 2020 03:04:05 GMT", " Jan 2020 03:04:05 GMT",
		"02 jan 2020 03:04:05 GMT", "02 JAN 2020 03:04:05 GMT", "02 January 2020 03:04:05 GMT", "02 Ja 2020 03:04:05 GMT", "02 Xyz 2020 03:04:05 GMT", "02 Thu 2020 03:04:05 GMT", "02 01 2020 03:04:05 GMT", "02  2020 03:04:05 GMT",
		"02 Jan 20 03:04:05 GMT", "02 Jan 02020 03:04:05 GMT", "02 Jan 202x 03:04:05 GMT", "02 Jan +020 03:04:05 GMT", "02 Jan 2020 3:04:05 GMT", "02 Jan 2020 03:4:05 GMT", "02 Jan 2020 03:04:5 GMT", "02 Jan 2020 03:04:05.5 GMT", "02 Jan 2020 03.04.05 GMT", "02 Jan 2020 030405 GMT", "02 Jan 2020T03:04:05 GMT",
		"02 Jan 2020 03:04:05GMT", "02 Jan 2020 03:04:05 gmt", "02 Jan 2020 03:04:05 Gmt", "02 Jan 2020 03:04:05 ut", "02 Jan 2020 03:04:05 UTC", "02 Jan 2020 03:04:05 U", "02 Jan 2020 03:04:05 GM", "02 Jan 2020 03:04:05 Z", "02 Jan 2020 03:04:05 EST", "02 Jan 2020 03:04:05 GMT+0000", "02 Jan 2020 03:04:05 GMT +0000", "02 Jan 2020 03:04:05 +0000 (UT)",
		"02 Jan 2020 03:04:05 +00:00", "02 Jan 2020 03:04:05 +00000", "02 Jan 2020 03:04:05 0000", "02 Jan 2020 03:04:05 00000", "02 Jan 2020 03:04:05 *0000", "02 Jan 2020 03:04:05 ,0000", "02 Jan 2020 03:04:05 +2400", "02 Jan 2020 03:04:05 -2400", "02 Jan 2020 03:04:05 +2360", "02 Jan 2020 03:04:05 +0060", "02 Jan 2020 03:04:05 +9999", "02 Jan 2020 03:04:05 +00x0", "02 Jan 2020 03:04:05 ++000",
		"\u0660\u0662 Jan 2020 03:04:05 GMT", "02 Jan 202\u0660 03:04:05 GMT", "02\u00a0Jan 2020 03:04:05 GMT", "2020-01-02T03:04:05Z",
	} {
		if n, code := impl.ReadRfc822(x); n != 0 || code != impl.ErrForm {
			t.Errorf("ReadRfc822(%q) = %d, %d", x, n, code)
		}
		checkRead822(t, x)
	}
}

// changed is each text that one byte more, less or other makes of x, and each beginning of it.
func changed(x string, use func(string)) {
	for i := range len(x) + 1 {
		use(x[:i])
		for c := range 256 {
			use(x[:i] + string([]byte{byte(c)}) + x[i:])
			if i < len(x) {
				use(x[:i] + string([]byte{byte(c)}) + x[i+1:])
			}
		}
		if i < len(x) {
			use(x[:i] + x[i+1:])
		}
	}
}

func TestChangedTexts(t *testing.T) {
	for _, x := range []string{"2020-01-02T03:04:05Z", "1970-01-01T00:00:00.7+00:01", "2099-12-31T23:59:59-00:01", "2000-02-29T19:20:21.05-19:30", "2020-11-30T23:59:59+23:59"} {
		changed(x, func(x string) { checkRead3339(t, x) })
	}
	for _, x := range []string{"Thu, 02 Jan 2020 03:04:05 +0000", "1 Jan 1970 00:00:00 +0001", "Thu, 31 Dec 2099 23:59:59 -0001", "Tue, 29 Feb 2000 19:20:21 -1930", "30 Nov 2020 23:59:59 GMT", "Mon, 30 Nov 2020 23:59:59 UT"} {
		changed(x, func(x string) { checkRead822(t, x) })
	}
}

func TestEachZone(t *testing.T) {
	for zone := range 10000 {
		hours, minutes := pad2(zone/100), pad2(zone%100)
		for _, sign := range []string{"+", "-", " ", ""} {
			for _, moment := range []string{"2020-01-02T03:04:05", "1970-01-01T12:34:00", "2099-12-31T12:25:59.5"} {
				checkRead3339(t, moment+sign+hours+":"+minutes)
			}
			for _, moment := range []string{"Thu, 2 Jan 2020 03:04:05 ", "1 Jan 1970 12:34:00 ", "Thu, 31 Dec 2099 12:25:59 "} {
				checkRead822(t, moment+sign+hours+minutes)
			}
		}
	}
}

func pad2(n int) string {
	return strconv.Itoa(n/10) + strconv.Itoa(n%10)
}

// Each day of each month, of either form, and those that there are not.
func TestTextsOfEachDay(t *testing.T) {
	for _, year := range []string{"1969", "1970", "1972", "2000", "2001", "2096", "2099", "2100", "0001", "9999"} {
		for month := range 14 {
			for day := range 34 {
				checkRead3339(t, year+"-"+pad2(month)+"-"+pad2(day)+"T23:59:59Z")
				if month < 12 {
					checkRead822(t, pad2(day)+" "+months[month]+" "+year+" 23:59:59 GMT")
					checkRead822(t, strconv.Itoa(day)+" "+months[month]+" "+year+" 00:00:00 UT")
				}
			}
		}
	}
}

func TestTextsOfEachClock(t *testing.T) {
	for clock := range 10000 {
		hour, minute := pad2(clock/100), pad2(clock%100)
		for _, x := range []string{hour + ":" + minute + ":00", hour + ":" + minute + ":59", hour + ":00:" + minute, "23:" + hour + ":" + minute} {
			checkRead3339(t, "2024-02-29T"+x+"Z")
			checkRead822(t, "29 Feb 2024 "+x+" GMT")
		}
	}
}

// The day of the week is that of the day that is told, not of the stamp's.
func TestToldWeekdays(t *testing.T) {
	for day := range 14 {
		x := time.Date(2024, 2, 22+day, 1, 0, 0, 0, time.UTC)
		for _, name := range weekdays {
			for _, zone := range []string{"GMT", "UT", "+0000", "+0200", "-2300", "+2359"} {
				text := name + ", " + x.Format("2 Jan 2006 15:04:05 ") + zone
				_, code := impl.ReadRfc822(text)
				if right := name == x.Format("Mon"); (code == impl.OK) != right || !right && code != impl.ErrForm {
					t.Errorf("ReadRfc822(%q) has the code %d", text, code)
				}
				checkRead822(t, text)
			}
		}
	}
}

func TestDatesAtMaxText(t *testing.T) {
	const moment = "2020-01-02T03:04:05."
	for _, zone := range []string{"Z", "+01:00", "-01:00", "", "z", ".Z", "+24:00"} {
		for _, size := range []int{impl.MaxText - 1, impl.MaxText, impl.MaxText + 1, 2 * impl.MaxText} {
			x := moment + strings.Repeat("9", size-len(moment)-len(zone)) + zone
			checkRead3339(t, x)
		}
	}
	if n, code := impl.ReadRfc3339(moment + strings.Repeat("0", impl.MaxText-len(moment)-1) + "Z"); n != 1577934245 || code != impl.OK {
		t.Error("ReadRfc3339 of MaxText bytes:", n, code)
	}
	for _, x := range []string{fullText, strings.Repeat(" ", impl.MaxText), strings.Repeat(", ", impl.MaxText/2), strings.Repeat("0", impl.MaxText)} {
		if n, code := impl.ReadRfc3339(x); n != 0 || code != impl.ErrForm {
			t.Error("ReadRfc3339 of MaxText bytes:", n, code)
		}
		if n, code := impl.ReadRfc822(x); n != 0 || code != impl.ErrForm {
			t.Error("ReadRfc822 of MaxText bytes:", n, code)
		}
		for _, x := range []string{x + " ", x + "\xff", x + x} {
			if n, code := impl.ReadRfc3339(x); n != 0 || code != impl.ErrLong {
				t.Error("ReadRfc3339 beyond MaxText:", n, code)
			}
			if n, code := impl.ReadRfc822(x); n != 0 || code != impl.ErrLong {
				t.Error("ReadRfc822 beyond MaxText:", n, code)
			}
		}
	}
}
