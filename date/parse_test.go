package date_test

import (
	"fmt"
	"strings"
	"testing"

	"broadsheet/api"
)

func TestParse(t *testing.T) { // K1
	reads(t, "1970-01-01T00:00:00Z", 0, 0)
	reads(t, "1970-01-01T00:00:01Z", 1, 0)
	reads(t, "1970-01-01T00:01:00Z", 60, 0)
	reads(t, "1970-01-01T01:00:00Z", 3600, 0)
	reads(t, "1970-01-02T00:00:00Z", 86400, 0)
	reads(t, "1970-02-01T00:00:00Z", 31*86400, 0)
	reads(t, "1970-03-01T00:00:00Z", 59*86400, 0)
	reads(t, "1971-01-01T00:00:00Z", 365*86400, 0)
	reads(t, "1973-01-01T00:00:00Z", 1096*86400, 0)
	reads(t, "2001-09-09T01:46:40Z", 1000000000, 0)
	reads(t, "2038-01-19T03:14:08Z", 1<<31, 0)
	reads(t, "1970-01-02T00:00:00.5+01:00", 82800, 500000000)
	reads(t, "1985-04-12T23:20:50.52Z", 482196050, 520000000)
	reads(t, "1996-12-19T16:39:57-08:00", 851042397, 0)
	reads(t, "1937-01-01T12:00:27.87+00:20", -1041337173, 870000000)
}

func TestLeastAndGreatest(t *testing.T) { // K1: of each part, and one beyond
	reads(t, "0000-12-31T23:59:59Z", first+366*86400-1, 0)
	reads(t, "9999-01-01T00:00:00Z", last-365*86400+1, 0)
	refuses(t, "10000-01-01T00:00:00Z", "-001-01-01T00:00:00Z", "-0001-01-01T00:00:00Z", "+2004-01-01T00:00:00Z", "999-01-01T00:00:00Z")
	reads(t, "2004-01-15T12:30:30Z", 1074169830, 0)
	reads(t, "2004-12-15T12:30:30Z", 1103113830, 0)
	refuses(t, "2004-00-15T12:30:30Z", "2004-13-15T12:30:30Z", "2004-99-15T12:30:30Z")
	reads(t, "2004-07-01T12:30:30Z", 1088685030, 0)
	reads(t, "2004-07-31T12:30:30Z", 1091277030, 0)
	refuses(t, "2004-07-00T12:30:30Z", "2004-07-32T12:30:30Z", "2004-07-99T12:30:30Z")
	reads(t, "2004-07-01T00:30:30Z", 1088641830, 0)
	reads(t, "2004-07-01T23:30:30Z", 1088724630, 0)
	refuses(t, "2004-07-01T24:30:30Z", "2004-07-01T24:00:00Z", "2004-07-01T99:00:00Z")
	reads(t, "2004-07-01T12:00:30Z", 1088683230, 0)
	reads(t, "2004-07-01T12:59:30Z", 1088686770, 0)
	refuses(t, "2004-07-01T12:60:30Z", "2004-07-01T12:99:30Z")
	reads(t, "2004-07-01T12:30:00Z", 1088685000, 0)
	reads(t, "2004-07-01T12:30:59Z", 1088685059, 0)
	refuses(t, "2004-07-01T12:30:60Z", "2004-12-31T23:59:60Z", "2004-07-01T12:30:99Z")
}

func TestEachPart(t *testing.T) { // K1: at each value that two digits tell, or four
	c := days()
	for n := range 100 {
		for _, s := range []string{"2003-%02d-28T12:30:30Z", "2003-%02d-31T12:30:30Z", "2004-02-%02dT12:30:30Z", "2003-02-%02dT12:30:30Z", "2004-11-%02dT12:30:30Z", "2004-12-%02dT12:30:30Z",
			"2004-05-06T%02d:30:30Z", "2004-05-06T12:%02d:30Z", "2004-05-06T12:30:%02dZ", "2004-05-06T12:30:30+%02d:30", "2004-05-06T12:30:30-%02d:30", "2004-05-06T12:30:30+12:%02d", "2004-05-06T12:30:30-12:%02d"} {
			c.agrees(t, fmt.Sprintf(s, n))
		}
	}
	for n := range 10000 {
		for _, s := range []string{"%04d-01-01T00:00:00Z", "%04d-02-28T23:59:59.9Z", "%04d-02-29T00:00:00Z", "%04d-03-01T00:00:00+00:01", "%04d-12-31T23:59:59-01:00", "%d-01-01T00:00:00Z"} {
			c.agrees(t, fmt.Sprintf(s, n))
		}
	}
}

func TestMonths(t *testing.T) { // K1: each month's last day, and the day behind it
	for _, x := range []struct{ year, february int }{
		{0, 29}, {1, 28}, {4, 29}, {100, 28}, {200, 28}, {400, 29}, {1600, 29}, {1700, 28}, {1900, 28}, {1904, 29}, {1970, 28}, {1972, 29},
		{1996, 29}, {1999, 28}, {2000, 29}, {2001, 28}, {2002, 28}, {2003, 28}, {2004, 29}, {2100, 28}, {2400, 29}, {9600, 29}, {9900, 28}, {9996, 29}, {9999, 28},
	} {
		for i, n := range []int{31, x.february, 31, 30, 31, 30, 31, 31, 30, 31, 30, 31} {
			day := func(n int) string { return fmt.Sprintf("%04d-%02d-%02dT23:59:59Z", x.year, i+1, n) }
			if want, e := days().parsed(day(n)); e != api.OK {
				t.Fatalf("the model refuses %s", day(n))
			} else {
				reads(t, day(n), want.Sec, 0)
			}
			refuses(t, day(n+1), day(0), day(32))
		}
	}
}

func TestEachDay(t *testing.T) { // K1
	c := days()
	for i, s := range c.days {
		reads(t, s+"T00:00:00Z", c.at(i)*86400, 0)
	}
	if n := len(c.days); c.at(0)*86400 != first || c.at(n)*86400-1 != last {
		t.Errorf("%d days", n)
	}
}

func TestEachSecondOfADay(t *testing.T) { // K1, K2
	for n := range 86400 {
		clock := fmt.Sprintf("%02d:%02d:%02dZ", n/3600, n/60%60, n%60)
		for sec, day := range map[int]string{0: "1970-01-01", -86400: "1969-12-31", first: "0000-01-01", last - 86399: "9999-12-31"} {
			reads(t, day+"T"+clock, sec+n, 0)
			tells(t, sec+n, 0, day+"T"+clock)
		}
	}
}

func TestFractions(t *testing.T) { // K1: nine digits count
	for s, nano := range map[string]int{
		"": 0, ".0": 0, ".1": 100000000, ".5": 500000000, ".9": 900000000, ".01": 10000000, ".10": 100000000, ".123": 123000000,
		".00000001": 10, ".12345678": 123456780, ".000000000": 0, ".000000001": 1, ".100000000": 100000000, ".123456789": 123456789, ".999999999": 999999999,
		".0000000000": 0, ".0000000009": 0, ".0000000010": 1, ".0000000019": 1, ".1234567890": 123456789, ".1234567899": 123456789, ".9999999999": 999999999,
		"." + strings.Repeat("9", 20): 999999999, "." + strings.Repeat("0", 1000) + "1": 0, "." + strings.Repeat("7", 1<<20): 777777777,
	} {
		reads(t, "1970-01-01T00:00:07"+s+"Z", 7, nano)
		reads(t, "1970-01-01T00:00:07"+s+"-00:01", 67, nano)
		reads(t, "1970-01-01T00:00:07"+s+"+00:01", -53, nano)
		refuses(t, "1970-01-01T00:00:07"+s, "1970-01-01T00:00:07"+s+".Z", "1970-01-01T00:00:07"+s+"z", "1970-01-01T00:00:60"+s+"Z")
	}
	for _, s := range []string{".", "..", "..5", ".5.", ".5.5", ",5", ".,5", ".+5", ".-5", ". 5", ".5 ", " .5", ".5e1", ".x", ".5x", "5", ".\u0665", ":5", ".1234567890x", "." + strings.Repeat("9", 1000) + "/"} {
		refuses(t, "1970-01-01T00:00:07"+s+"Z", "1970-01-01T00:00:07"+s+"+00:00", "1970-01-01T00:00:07"+s+"-00:00", "1970-01-01T00:00:07"+s)
	}
}

func TestZones(t *testing.T) { // K1: ahead of UTC, and behind it
	const noon = 1083844800
	for n := range 24 * 60 {
		reads(t, fmt.Sprintf("2004-05-06T12:00:00+%02d:%02d", n/60, n%60), noon-n*60, 0)
		reads(t, fmt.Sprintf("2004-05-06T12:00:00-%02d:%02d", n/60, n%60), noon+n*60, 0)
	}
	reads(t, "2004-05-06T12:00:00Z", noon, 0)
	reads(t, "2004-05-06T12:00:00-00:00", noon, 0)
	reads(t, "2004-05-06T12:00:00.000000001+23:59", noon-86340, 1)
	for _, s := range []string{"", "z", "ZZ", "Z ", " Z", "ZZ:00", "Z+00:00", "Z00:00", "+", "-", "+0", "+00", "+00:", "+00:0", "+0:00", "+0000", "+000:00", "+00:000", "+00-00", "+00.00", "+00 00", "+00:00Z", "+00:00:00", "+00:00+00:00",
		"00:00", " 00:00", "++00:00", "+-0:00", "-+0:00", "+24:00", "-24:00", "+00:60", "-00:60", "+23:60", "-23:60", "+99:99", "+x0:00", "+0x:00", "+00:x0", "+00:0x", "\u221200:00", "UTC", "GMT", "a", "+", "Z\x00", "+00:00\n"} {
		refuses(t, "2004-05-06T12:00:00"+s, "2004-05-06T12:00:00.5"+s)
	}
}

func TestOutOfTheYears(t *testing.T) { // K1: what is read may lie ahead of the year 0, and behind 9999
	reads(t, "0000-01-01T00:00:00Z", first, 0)
	reads(t, "9999-12-31T23:59:59Z", last, 0)
	reads(t, "9999-12-31T23:59:59.999999999Z", last, 999999999)
	reads(t, "0000-01-01T00:00:00+00:01", first-60, 0)
	reads(t, "0000-01-01T00:00:00+23:59", first-86340, 0)
	reads(t, "0000-01-01T00:00:00.25+23:59", first-86340, 250000000)
	reads(t, "0000-01-01T23:59:00+23:59", first, 0)
	reads(t, "9999-12-31T23:59:59-00:01", last+60, 0)
	reads(t, "9999-12-31T23:59:59-23:59", last+86340, 0)
	reads(t, "9999-12-31T23:59:59.999999999-23:59", last+86340, 999999999)
	reads(t, "9999-12-31T00:00:59-23:59", last, 0)
}

func TestAheadOf1970(t *testing.T) { // K1: seconds are below 0, billionths are not
	reads(t, "1969-12-31T23:59:59Z", -1, 0)
	reads(t, "1969-12-31T23:59:59.5Z", -1, 500000000)
	reads(t, "1969-12-31T23:59:59.999999999Z", -1, 999999999)
	reads(t, "1969-12-31T23:59:58.000000001Z", -2, 1)
	reads(t, "1969-12-31T00:00:00Z", -86400, 0)
	reads(t, "1970-01-01T00:00:00+00:01", -60, 0)
	reads(t, "1970-01-01T00:00:00.75+01:00", -3600, 750000000)
	reads(t, "1969-12-31T23:30:00-00:30", 0, 0)
	reads(t, "1900-01-01T00:00:00Z", -2208988800, 0)
	reads(t, "1582-10-15T00:00:00.1Z", -12219292800, 100000000)
	reads(t, "0001-01-01T00:00:00Z", -62135596800, 0)
}

// good are texts of each shape.
func good() []string {
	return []string{"2004-05-06T07:08:09Z", "2004-05-06T07:08:09.125Z", "2004-05-06T07:08:09+10:11", "1999-12-31T23:59:59.123456789-23:59", "0000-02-29T00:00:00.0-00:00"}
}

func TestEachByte(t *testing.T) { // K1: another one in its place, one more ahead of it, and none
	c := days()
	for _, s := range good() {
		if _, e := c.parsed(s); e != api.OK {
			t.Fatalf("the model refuses %s", s)
		}
		for i := range len(s) + 1 {
			c.agrees(t, s[:i])
			c.agrees(t, s[i:])
			for b := range 256 {
				c.agrees(t, s[:i]+string([]byte{byte(b)})+s[i:])
				if i < len(s) {
					c.agrees(t, s[:i]+string([]byte{byte(b)})+s[i+1:])
				}
			}
			for j := i; j <= len(s); j++ {
				c.agrees(t, s[:i]+s[j:])
				c.agrees(t, s[:j]+s[i:])
			}
		}
	}
}

func TestTwoBytes(t *testing.T) { // K1: others in the place of each two
	c := days()
	const some = "\x00\t\n +-./0123459:;TZtz\x80\xff"
	for _, s := range good()[1:4] {
		for i := range s {
			for j := range i {
				for _, x := range []byte(some) {
					for _, y := range []byte(some) {
						b := []byte(s)
						b[i], b[j] = x, y
						c.agrees(t, string(b))
					}
				}
			}
		}
	}
}

func TestNoPointOfTime(t *testing.T) { // K1: too short, too long, something ahead or behind, other forms
	for _, s := range good() {
		refuses(t, s+s, s+" ", " "+s, "\t"+s, s+"\n", s+"\x00", "\x00"+s, "+"+s, "-"+s, "0"+s, s+"0", s+"Z", "\uFEFF"+s, s+"\xff", s[1:], s[:len(s)-1], strings.ToLower(s), strings.Repeat(s, 1000))
	}
	refuses(t, "", " ", "Z", "T", ".", "0", "2004", "2004-05", "2004-05-06", "2004-05-06Z", "2004-05-06T", "2004-05-06T07", "2004-05-06T07Z", "2004-05-06T07:08", "2004-05-06T07:08Z", "2004-05-06T07:08:09",
		"07:08:09Z", "T07:08:09Z", "2004-05-06 07:08:09Z", "2004-05-06t07:08:09Z", "2004-05-06T07:08:09z", "2004-5-06T07:08:09Z", "2004-05-6T07:08:09Z", "2004-05-06T7:08:09Z", "2004-05-06T07:8:09Z", "2004-05-06T07:08:9Z",
		"04-05-06T07:08:09Z", "2004/05/06T07:08:09Z", "2004-05-06T07.08.09Z", "20040506T070809Z", "2004-127T07:08:09Z", "2004-W19-4T07:08:09Z", "06-05-2004T07:08:09Z", "Thu, 06 May 2004 07:08:09 GMT",
		"２004-05-06T07:08:09Z", "2004-05-06T07:08:0\u0669Z", "2004\u201305\u201306T07:08:09Z", "-2004-05-06T07:08:09Z", strings.Repeat("0", 1<<20), strings.Repeat("\xff", 20))
}

func TestPiecesOfTexts(t *testing.T) { // K1
	c := days()
	d := dice(3)
	pieces := []string{"2004", "0000", "9999", "-", "-", "02", "12", "29", "31", "T", "23", ":", ":", "59", "00", ".", "5", "Z", "+", "2004-02-29T", "23:59:59", "1900-02-28T00:00:00", "+23:59", "-00:01"}
	read := 0
	for range 300000 {
		s := ""
		for range 1 + d.below(6) {
			s += pieces[d.below(len(pieces))]
		}
		c.agrees(t, s)
		if _, e := c.parsed(s); e == api.OK {
			read++
		}
	}
	if read < 100 {
		t.Errorf("no more than %d were read", read)
	}
}
