package date_test

import (
	"cmp"
	"math"
	"slices"
	"strconv"
	"testing"
	"time"

	"broadsheet/api"
	"broadsheet/date"
)

func TestPrint(t *testing.T) { // K2
	tells(t, 0, 0, "1970-01-01T00:00:00Z")
	tells(t, 1, 0, "1970-01-01T00:00:01Z")
	tells(t, -1, 0, "1969-12-31T23:59:59Z")
	tells(t, 86399, 0, "1970-01-01T23:59:59Z")
	tells(t, 86400, 0, "1970-01-02T00:00:00Z")
	tells(t, -86400, 0, "1969-12-31T00:00:00Z")
	tells(t, -86401, 0, "1969-12-30T23:59:59Z")
	tells(t, 1000000000, 0, "2001-09-09T01:46:40Z")
	tells(t, 951782400, 0, "2000-02-29T00:00:00Z")
	tells(t, -2203891201, 0, "1900-02-28T23:59:59Z")
	tells(t, -2203891200, 0, "1900-03-01T00:00:00Z")
	tells(t, 82800, 500000000, "1970-01-01T23:00:00.5Z")
	tells(t, -1, 999999999, "1969-12-31T23:59:59.999999999Z")
}

func TestPrintAtItsEnds(t *testing.T) { // K2
	tells(t, first, 0, "0000-01-01T00:00:00Z")
	tells(t, first, 999999999, "0000-01-01T00:00:00.999999999Z")
	tells(t, first+1, 0, "0000-01-01T00:00:01Z")
	tells(t, last, 0, "9999-12-31T23:59:59Z")
	tells(t, last, 999999999, "9999-12-31T23:59:59.999999999Z")
	tells(t, last-1, 0, "9999-12-31T23:59:58Z")
	for _, nano := range []int{0, 1, 999999999} {
		for _, sec := range []int{first - 1, last + 1, first - 86340, last + 86340, -1 << 40, 1 << 40, math.MinInt, math.MinInt + 1, math.MaxInt - 1, math.MaxInt} {
			refusesPoint(t, sec, nano)
		}
	}
	for _, sec := range []int{first - 1, first, -1, 0, 1, last, last + 1, math.MinInt, math.MaxInt} {
		for _, nano := range []int{-1, -2, -999999999, 1000000000, 1000000001, 1 << 32, math.MinInt, math.MaxInt} {
			refusesPoint(t, sec, nano)
		}
	}
}

func TestPrintOfFractions(t *testing.T) { // K2: without noughts at the end, with those at the head
	for nano, want := range map[int]string{
		0: "", 1: ".000000001", 10: ".00000001", 12: ".000000012", 120: ".00000012", 100: ".0000001", 1000: ".000001", 10000: ".00001", 100000: ".0001", 1000000: ".001", 10000000: ".01", 100000000: ".1",
		900000000: ".9", 500000000: ".5", 250000000: ".25", 101000000: ".101", 100000001: ".100000001", 10100000: ".0101", 123456789: ".123456789", 123456780: ".12345678", 999999990: ".99999999", 999999999: ".999999999",
	} {
		tells(t, 0, nano, "1970-01-01T00:00:00"+want+"Z")
		tells(t, -1, nano, "1969-12-31T23:59:59"+want+"Z")
	}
}

func TestPrintOfEachDay(t *testing.T) { // K2, K4: and they stand byte by byte as the points of time do
	c := days()
	ahead := ""
	for i, s := range c.days {
		n := c.at(i) * 86400
		tells(t, n, 0, s+"T00:00:00Z")
		tells(t, n+86399, 0, s+"T23:59:59Z")
		got, _ := date.Print(api.Date{Sec: n})
		if got <= ahead {
			t.Fatalf("%q is not behind %q", got, ahead)
		}
		ahead = got
	}
}

func TestPrintOfManyPoints(t *testing.T) { // K2: against Go's own library
	for _, d := range points() {
		want, e := printed(d)
		answersText(t, d, want, e)
	}
}

func TestCmp(t *testing.T) { // K3
	for _, x := range []struct {
		a, b api.Date
		want int
	}{
		{api.Date{}, api.Date{}, 0},
		{api.Date{Sec: 1, Nano: 2}, api.Date{Sec: 1, Nano: 2}, 0},
		{api.Date{Sec: -1, Nano: 2}, api.Date{Sec: -1, Nano: 2}, 0},
		{api.Date{Sec: 1}, api.Date{Sec: 2}, -1},
		{api.Date{Sec: -2}, api.Date{Sec: -1}, -1},
		{api.Date{Sec: -1}, api.Date{Sec: 1}, -1},
		{api.Date{Sec: -1}, api.Date{}, -1},
		{api.Date{Nano: 1}, api.Date{Nano: 2}, -1},
		{api.Date{Sec: -5, Nano: 1}, api.Date{Sec: -5, Nano: 2}, -1},
		{api.Date{Sec: 1, Nano: 1}, api.Date{Sec: 2, Nano: 2}, -1},
		{api.Date{Sec: 1, Nano: 2}, api.Date{Sec: 2, Nano: 1}, -1},
		{api.Date{Sec: 1, Nano: 999999999}, api.Date{Sec: 2}, -1},
		{api.Date{Sec: -1, Nano: 999999999}, api.Date{}, -1},
		{api.Date{Sec: first}, api.Date{Sec: last}, -1},
		{api.Date{Sec: math.MinInt}, api.Date{Sec: math.MaxInt}, -1},
		{api.Date{Sec: math.MinInt}, api.Date{Sec: 1}, -1},
		{api.Date{Nano: math.MinInt}, api.Date{Nano: math.MaxInt}, -1},
		{api.Date{Nano: -1}, api.Date{}, -1},
		{api.Date{Sec: 1, Nano: 5000000000}, api.Date{Sec: 2}, -1}, // a Nano that may not be told is no more than a Nano
		{api.Date{Sec: 1}, api.Date{Sec: 2, Nano: -5000000000}, -1},
	} {
		if got := date.Cmp(x.a, x.b); got != x.want {
			t.Errorf("Cmp %v %v: %d, not %d", x.a, x.b, got, x.want)
		}
		if got := date.Cmp(x.b, x.a); got != -x.want {
			t.Errorf("Cmp %v %v: %d, not %d", x.b, x.a, got, -x.want)
		}
	}
}

func TestCmpOfManyPoints(t *testing.T) { // K3: against Go's own library
	l := points()
	for i, a := range l {
		b := l[(i*7+1)%len(l)]
		for _, b := range []api.Date{b, a, {Sec: a.Sec, Nano: b.Nano}, {Sec: b.Sec, Nano: a.Nano}} {
			want := time.Unix(int64(a.Sec), int64(a.Nano)).Compare(time.Unix(int64(b.Sec), int64(b.Nano)))
			if got := date.Cmp(a, b); got != want {
				t.Fatalf("Cmp %v %v: %d, not %d", a, b, got, want)
			}
		}
	}
}

func TestWhatIsToldIsRead(t *testing.T) { // K4
	for _, d := range points() {
		s, e := date.Print(d)
		if e != api.OK {
			t.Fatalf("Print %v: %d", d, e)
		}
		answers(t, s, d, api.OK)
	}
}

func TestWhatIsReadIsTold(t *testing.T) { // K4: as the same point of time, if it may be told
	d := dice(2)
	told := 0
	for range 100000 {
		s := d.readable()
		x, e := date.Parse(s)
		if e != api.OK {
			t.Fatalf("Parse %q: %d", s, e)
		}
		want, number := printed(x)
		answersText(t, x, want, number)
		if number == api.OK {
			answers(t, want, x, api.OK)
			told++
		}
	}
	if told < 50000 || told == 100000 {
		t.Errorf("%d were told", told)
	}
	for _, s := range []string{"0000-01-01T00:00:00+00:01", "0000-01-01T23:58:59+23:59", "9999-12-31T23:59:59-00:01", "9999-12-31T00:01:00-23:59"} {
		x, e := date.Parse(s)
		if e != api.OK {
			t.Fatalf("Parse %q: %d", s, e)
		}
		refusesPoint(t, x.Sec, x.Nano)
	}
}

// readable is a text that may be read: one in four lies at the ends of the years.
func (d *dice) readable() string {
	pad := func(least, greatest, count int) string {
		s := "0000" + strconv.Itoa(least+d.below(greatest-least+1))
		return s[len(s)-count:]
	}
	day := pad(0, 9999, 4) + "-" + pad(1, 12, 2) + "-" + pad(1, 28, 2)
	switch d.below(8) {
	case 0:
		day = "0000-01-01"
	case 1:
		day = "9999-12-31"
	}
	s := day + "T" + pad(0, 23, 2) + ":" + pad(0, 59, 2) + ":" + pad(0, 59, 2)
	if n := d.below(12); n > 0 {
		s += "."
		for range n {
			s += pad(0, 9, 1)
		}
	}
	switch d.below(3) {
	case 0:
		return s + "Z"
	case 1:
		return s + "+" + pad(0, 23, 2) + ":" + pad(0, 59, 2)
	}
	return s + "-" + pad(0, 23, 2) + ":" + pad(0, 59, 2)
}

func TestTextsStandAsPoints(t *testing.T) { // K4: those without a fraction
	l := points()
	for i := range l {
		l[i].Nano = 0
	}
	slices.SortFunc(l, date.Cmp)
	ahead, _ := date.Print(l[0])
	for i, d := range l[1:] {
		s, _ := date.Print(d)
		if cmp.Compare(ahead, s) != date.Cmp(l[i], d) {
			t.Fatalf("%v is told as %q, %v as %q", l[i], ahead, d, s)
		}
		ahead = s
	}
}

func TestNothingIsKept(t *testing.T) { // K1, K2: what was asked ahead does not count
	for range 3 {
		for _, s := range good() {
			want, e := days().parsed(s)
			refuses(t, "", s+"x")
			answers(t, s, want, e)
			refusesPoint(t, last+1, 0)
			text, e := printed(want)
			answersText(t, want, text, e)
		}
	}
}
