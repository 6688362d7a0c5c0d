package date

import (
	"strconv"
	"strings"
)

// The forms of parts, in which a 0 stands for any digit.
const (
	momentForm = "0000-00-00T00:00:00"
	aheadForm  = "+00:00"
	behindForm = "-00:00"
)

const (
	digits     = "0123456789"
	nanoDigits = 9 // how many digits of a fraction count
)

// A text is one from which parts are taken.
type text string

// cut takes off the head of a text what has that form. The rest is empty if it has not.
func (t text) cut(form string) (part, rest text, has bool) {
	if len(t) < len(form) {
		return "", "", false
	}
	for i, c := range []byte(form) {
		if c == '0' && !isDigit(t[i]) || c != '0' && c != t[i] {
			return "", "", false
		}
	}
	return t[:len(form)], t[len(form):], true
}

// number is the number whose digits stand from one byte of a text up to another.
func (t text) number(from, to int) int {
	n := 0
	for _, c := range []byte(t[from:to]) {
		n = n*10 + int(c-'0')
	}
	return n
}

// day is the day, since that of 1970's beginning, of a text of the moment's form, if there is such a day.
func (t text) day() (n int, is bool) {
	year, month, day := t.number(0, 4), t.number(5, 7), t.number(8, 10)
	if !isWithin(month, 1, 12) || !isWithin(day, 1, lastDay(year, month)) {
		return 0, false
	}
	return dayOf(year, month, day), true
}

// second is the second of the day of a text of the moment's form, if there is such a second.
func (t text) second() (n int, is bool) {
	second := t.number(17, 19)
	n, is = t.minutes(11)
	if !is || second > 59 {
		return 0, false
	}
	return n + second, true
}

// minutes are the seconds of the hours and minutes that stand at that byte of a text, if there are so many in a day.
func (t text) minutes(at int) (n int, is bool) {
	hour, minute := t.number(at, at+2), t.number(at+3, at+5)
	if hour > 23 || minute > 59 {
		return 0, false
	}
	return hour*hourSeconds + minute*minuteSeconds, true
}

// fraction is the billionths of the fraction at the head of a text, which need not have one, and what stands behind it.
func (t text) fraction() (nano int, rest text, is bool) {
	if !strings.HasPrefix(string(t), ".") {
		return 0, t, true
	}
	rest = text(strings.TrimLeft(string(t[1:]), digits))
	count := min(len(t)-len(rest)-1, nanoDigits)
	if count == 0 {
		return 0, "", false
	}
	nano = t.number(1, 1+count)
	for range nanoDigits - count {
		nano *= 10
	}
	return nano, rest, true
}

// seconds is how far ahead of UTC a time is that ends in that text, if it may end so.
func (t text) seconds() (ahead int, is bool) {
	if t == "Z" {
		return 0, true
	}
	if zone, rest, has := t.cut(aheadForm); has && rest == "" {
		return zone.minutes(1)
	}
	if zone, rest, has := t.cut(behindForm); has && rest == "" {
		behind, may := zone.minutes(1)
		return -behind, may
	}
	return 0, false
}

func isDigit(c byte) bool {
	return '0' <= c && c <= '9'
}

// padded is a number in that many digits.
func padded(n, count int) string {
	s := strconv.Itoa(n)
	return strings.Repeat("0", count-len(s)) + s
}
