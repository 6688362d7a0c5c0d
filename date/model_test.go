package date_test

import (
	"fmt"
	"regexp"
	"strconv"
	"sync"
	"testing"
	"time"

	"broadsheet/api"
	"broadsheet/date"
)

// The first and the last second of the years 0 to 9999, as K2 tells them.
const (
	first = -62167219200
	last  = 253402300799
)

// whole is K1's form. A year has four digits of it, and what stands behind the seconds its own.
var whole = regexp.MustCompile(`\A([0-9]{4})-([0-9]{2})-([0-9]{2})T([0-9]{2}):([0-9]{2}):([0-9]{2})(?:\.([0-9]+))?(?:Z|([+-])([0-9]{2}):([0-9]{2}))\z`)

// A calendar is the days of the years 0 to 9999, one by one, and how many of them lie ahead of each month.
type calendar struct {
	days  []string
	ahead map[[2]int]int
}

// days is the calendar, counted from the words alone, once.
var days = sync.OnceValue(func() calendar {
	c := calendar{ahead: map[[2]int]int{}}
	for year := range 10000 {
		for month := 1; month <= 12; month++ {
			c.ahead[[2]int{year, month}] = len(c.days)
			for day := 1; day <= daysOf(year, month); day++ {
				c.days = append(c.days, fmt.Sprintf("%04d-%02d-%02d", year, month, day))
			}
		}
	}
	return c
})

// at is which day, since 1970's first one, the calendar's n-th is.
func (c calendar) at(n int) int { return n - c.ahead[[2]int{1970, 1}] }

// daysOf is how many days a month has.
func daysOf(year, month int) int {
	long := []int{0, 31, 28, 31, 30, 31, 30, 31, 31, 30, 31, 30, 31}[month]
	if month == 2 && (year%400 == 0 || year%4 == 0 && year%100 != 0) {
		long++
	}
	return long
}

// parsed is K1 word by word.
func (c calendar) parsed(s string) (api.Date, api.Errno) {
	l := whole.FindStringSubmatch(s)
	if l == nil {
		return api.Date{}, api.ErrDate
	}
	year, month, day := atoi(l[1]), atoi(l[2]), atoi(l[3])
	hour, minute, second := atoi(l[4]), atoi(l[5]), atoi(l[6])
	hours, minutes := atoi(l[9]), atoi(l[10])
	if month < 1 || month > 12 || day < 1 || day > daysOf(year, month) || hour > 23 || minute > 59 || second > 59 || hours > 23 || minutes > 59 {
		return api.Date{}, api.ErrDate
	}
	ahead := hours*60 + minutes
	if l[8] == "-" {
		ahead = -ahead
	}
	n := c.at(c.ahead[[2]int{year, month}] + day - 1)
	return api.Date{Sec: ((n*24+hour)*60+minute-ahead)*60 + second, Nano: atoi((l[7] + "000000000")[:9])}, api.OK
}

// atoi is the number of those digits, 0 if there are none.
func atoi(s string) int {
	n, _ := strconv.Atoi(s)
	return n
}

// printed is K2 by Go's own library.
func printed(d api.Date) (string, api.Errno) {
	if d.Sec < first || d.Sec > last || d.Nano < 0 || d.Nano > 999999999 {
		return "", api.ErrDate
	}
	return time.Unix(int64(d.Sec), int64(d.Nano)).UTC().Format("2006-01-02T15:04:05.999999999Z"), api.OK
}

// A dice throws numbers that are the same in each run.
type dice uint64

func (d *dice) below(n int) int {
	*d = *d*6364136223846793005 + 1442695040888963407
	return int(*d >> 16 % dice(n))
}

// point is a point of time that may be told, with a fraction of few digits, of many, or none.
func (d *dice) point() api.Date {
	step := []int{1, 10, 1000, 1000000, 100000000, 1000000000}[d.below(6)]
	return api.Date{Sec: first + d.below(last-first+1), Nano: d.below(1000000000/step) * step}
}

// points are those beside which something turns, and many of some hap.
func points() []api.Date {
	var l []api.Date
	for _, sec := range []int{first, -1000000001, -86401, -86400, -86399, -1, 0, 1, 59, 60, 3599, 3600, 86399, 86400, 951782399, 951782400, 951868800, last} {
		for _, nano := range []int{0, 1, 10, 999999999, 999999990, 100000000, 500000000, 120} {
			l = append(l, api.Date{Sec: sec, Nano: nano})
		}
	}
	d := dice(1)
	for range 100000 {
		l = append(l, d.point())
	}
	return l
}

// reads fails unless Parse answers that point of time.
func reads(t *testing.T, s string, sec, nano int) {
	t.Helper()
	answers(t, s, api.Date{Sec: sec, Nano: nano}, api.OK)
}

// refuses fails unless Parse answers ErrDate, and nothing beside it.
func refuses(t *testing.T, l ...string) {
	t.Helper()
	for _, s := range l {
		answers(t, s, api.Date{}, api.ErrDate)
	}
}

// agrees fails unless Parse answers what the chapter's words ask.
func (c calendar) agrees(t *testing.T, s string) {
	t.Helper()
	d, e := c.parsed(s)
	answers(t, s, d, e)
}

func answers(t *testing.T, s string, want api.Date, number api.Errno) {
	t.Helper()
	if d, e := date.Parse(s); d != want || e != number {
		t.Fatalf("Parse %.60q (%d bytes): %v, %d, not %v, %d", s, len(s), d, e, want, number)
	}
}

// tells fails unless Print answers that text.
func tells(t *testing.T, sec, nano int, want string) {
	t.Helper()
	answersText(t, api.Date{Sec: sec, Nano: nano}, want, api.OK)
}

// refusesPoint fails unless Print answers ErrDate, and nothing beside it.
func refusesPoint(t *testing.T, sec, nano int) {
	t.Helper()
	answersText(t, api.Date{Sec: sec, Nano: nano}, "", api.ErrDate)
}

func answersText(t *testing.T, d api.Date, want string, number api.Errno) {
	t.Helper()
	if s, e := date.Print(d); s != want || e != number {
		t.Fatalf("Print %v: %q, %d, not %q, %d", d, s, e, want, number)
	}
}
