package glyph_test

import (
	"math"
	"slices"
	"strings"
	"testing"

	"broadsheet/api"
	"broadsheet/glyph"
)

// runsOf are the runs of numbers, of those from a good way below 0 to a good way beyond the last code point, of which f holds.
func runsOf(f func(int) bool) []run {
	var l []run
	for c := -1 << 17; c < 1<<22; c++ {
		if !f(c) {
			continue
		}
		if k := len(l) - 1; k >= 0 && l[k].to == c-1 {
			l[k].to = c
		} else {
			l = append(l, run{c, c})
		}
	}
	return l
}

func TestPoints(t *testing.T) { // E1: each run's ends are in it, and what is just outside of it is not
	for _, x := range []struct {
		call string
		f    func(int) bool
		want []run
	}{
		{"Char", glyph.Char, chars()},
		{"Start", glyph.Start, starts()},
		{"Part", glyph.Part, parts()},
	} {
		if got := runsOf(x.f); !slices.Equal(got, x.want) {
			t.Errorf("%s: %x, not %x", x.call, got, x.want)
		}
	}
}

func TestPointsOfNumbersThatAreNone(t *testing.T) { // E1: none of them is taken for what its last bits are
	for _, c := range []int{math.MinInt, math.MinInt + 'a', math.MinInt32, math.MinInt32 + 'a', -1 << 32, -1<<32 + 'a',
		-'a', -0x10000, -1, 0x110000, 1<<21 + 'a', 1<<24 + 'a', math.MaxInt32, 1 << 31, 1<<31 + 'a', math.MaxUint32,
		1 << 32, 1<<32 + 'a', 1<<32 + ':', 1<<32 + '-', 1<<48 + 'a', 1<<62 + 'a', math.MaxInt} {
		if glyph.Char(c) || glyph.Start(c) || glyph.Part(c) {
			t.Errorf("%#x: %v, %v, %v", c, glyph.Char(c), glyph.Start(c), glyph.Part(c))
		}
	}
}

// checks fails unless Check answers OK, or ErrUTF8, if it is not to be a text.
func checks(t *testing.T, s string, is bool) {
	t.Helper()
	want := api.ErrUTF8
	if is {
		want = api.OK
	}
	if e := glyph.Check(s); e != want {
		t.Fatalf("Check %q: %d, not %d", s, e, want)
	}
}

func TestCheck(t *testing.T) { // E2
	for _, s := range []string{"", "a", "\t\n\r", " ~\x7f", "\u0080", "aé\u20AC😀", "\uD7FF", "\uE000", "\uFFFD", "\U00010000",
		"\U0010FFFF", "\uFFFD\uFFFD", "a\uFFFD", "\uFFFDa", "<&>", strings.Repeat("é", 100000)} {
		checks(t, s, true)
	}
	for _, x := range []struct{ why, s string }{
		{"no Char", "\x00"},
		{"no Char", "\x08"},
		{"no Char", "\x0b"},
		{"no Char", "\x0c"},
		{"no Char", "\x0e"},
		{"no Char", "\x1f"},
		{"no Char", "\uFFFE"},
		{"no Char", "\uFFFF"},
		{"too long", "\xC0\x80"},
		{"too long", "\xC1\xBF"},
		{"too long", "\xC1\xA1"}, // an a
		{"too long", "\xE0\x80\x80"},
		{"too long", "\xE0\x9F\xBF"},
		{"too long", "\xF0\x80\x80\x80"},
		{"too long", "\xF0\x8F\xBF\xBF"},
		{"too long", "\xF0\x8F\xBF\xBD"}, // 0xFFFD
		{"too long", "\xF8\x80\x80\x80\x80"},
		{"too long", "\xFC\x80\x80\x80\x80\xA1"},
		{"a lone byte", "\x80"},
		{"a lone byte", "\xBF"},
		{"a lone byte", "é\xA9"},
		{"a lone byte", "\xFE"},
		{"a lone byte", "\xFF"},
		{"a missing byte", "\xC3"},
		{"a missing byte", "\xE2"},
		{"a missing byte", "\xE2\x82"},
		{"a missing byte", "\xEF\xBF"}, // of 0xFFFD
		{"a missing byte", "\xF0"},
		{"a missing byte", "\xF0\x9F\x98"},
		{"another byte in its place", "\xC3a"},
		{"another byte in its place", "\xE2\x82a"},
		{"another byte in its place", "\xC3é"},
		{"from 0xD800 on", "\xED\xA0\x80"},
		{"up to 0xDFFF", "\xED\xBF\xBF"},
		{"two of these", "\xED\xA0\xBD\xED\xB8\x80"},
		{"above 0x10FFFF", "\xF4\x90\x80\x80"},
		{"above 0x10FFFF", "\xF5\x80\x80\x80"},
		{"above 0x10FFFF", "\xF7\xBF\xBF\xBF"},
		{"above 0x10FFFF", "\xFB\xBF\xBF\xBF\xBF"},
	} {
		for _, ahead := range []string{"", "a", "é", "\uFFFD"} {
			for _, behind := range []string{"", "a", "é", "\uFFFD"} {
				s := ahead + x.s + behind
				if e := glyph.Check(s); e != api.ErrUTF8 {
					t.Errorf("%s: Check %q: %d", x.why, s, e)
				}
			}
		}
	}
}

func TestCheckOfEachPoint(t *testing.T) { // E2: in the fewest bytes, and in more
	for c := range 1 << 21 {
		for n := fewest(c); n <= 4; n++ {
			is := n == fewest(c) && in(c, chars())
			checks(t, encoded(c, n), is)
			if is != in(c, chars()) || c%0x3F == 0 { // not each time: it takes long
				checks(t, "é"+encoded(c, n)+"a", is)
			}
		}
	}
	for c := 1; c < 1<<31; c += 1 + c/50 {
		for n := max(5, fewest(c)); n <= 6; n++ {
			checks(t, encoded(c, n), false)
		}
	}
}

func TestCheckOfBytes(t *testing.T) { // E2: at the edges of what each byte tells, in all orders
	var l []string
	for _, c := range []byte{0x00, 0x09, 0x0D, 0x1F, 0x20, 0x7F, 0x80, 0x8F, 0x90, 0x9F, 0xA0, 0xBD, 0xBE, 0xBF, 0xC0, 0xC1,
		0xC2, 0xDF, 0xE0, 0xE1, 0xEC, 0xED, 0xEE, 0xEF, 0xF0, 0xF1, 0xF3, 0xF4, 0xF5, 0xF7, 0xF8, 0xFF} {
		l = append(l, string([]byte{c}))
	}
	texts(l, 4, func(s string) { checks(t, s, isText(s)) })
}

func TestLines(t *testing.T) { // E3
	for s, want := range map[string]string{
		"":                "",
		"a":               "a",
		"\n":              "\n",
		"\r":              "\n",
		"\r\n":            "\n",
		"\n\r":            "\n\n",
		"\n\n":            "\n\n",
		"\r\r":            "\n\n",
		"\r\r\n":          "\n\n",
		"\r\n\n":          "\n\n",
		"\r\n\r":          "\n\n",
		"\n\r\n":          "\n\n",
		"\r\n\r\n":        "\n\n",
		"\n\r\n\r":        "\n\n\n",
		"\r\r\n\r":        "\n\n\n",
		"\ra\r":           "\na\n",
		"\r\na\r\n":       "\na\n",
		"a\r\nb\rc\nd":    "a\nb\nc\nd",
		"a\r \nb":         "a\n \nb",
		"\u0085\u2028é\t": "\u0085\u2028é\t", // no ends of lines
		"\x8d\r\xff\r\n":  "\x8d\n\xff\n",    // nor are these of any
		"čĊ\r\n":          "čĊ\n",            // 0x10D and 0x10A
	} {
		if got := glyph.Lines(s); got != want {
			t.Errorf("Lines %q: %q, not %q", s, got, want)
		}
	}
}

func TestLinesOfAllOrders(t *testing.T) { // E3, E6: Lines of Lines are the same, and have no 13
	texts([]string{"\r", "\n", "a", "é", "\xFF"}, 7, func(s string) {
		got := glyph.Lines(s)
		if got != lines(s) {
			t.Fatalf("Lines %q: %q, not %q", s, got, lines(s))
		}
		if again := glyph.Lines(got); again != got || strings.IndexByte(got, 13) >= 0 {
			t.Fatalf("Lines %q: %q, and %q", s, got, again)
		}
	})
}

// names fails unless Name answers that name and what stands behind it, or, if the name is empty, ErrName.
func names(t *testing.T, s, want string) {
	t.Helper()
	rest, wantE := s[len(want):], api.OK
	if want == "" {
		rest, wantE = "", api.ErrName
	}
	if gotName, gotRest, e := glyph.Name(s); gotName != want || gotRest != rest || e != wantE {
		t.Fatalf("Name %q: %q, %q, %d, not %q, %q, %d", s, gotName, gotRest, e, want, rest, wantE)
	}
}

func TestName(t *testing.T) { // E4
	for s, want := range map[string]string{
		"a":                 "a",
		"a:b-1 c":           "a:b-1",
		":":                 ":",
		"::a=":              "::a",
		"_":                 "_",
		"Z9.-_:/>":          "Z9.-_:",
		"a\n":               "a",
		"a>b":               "a",
		"é\u00B7x×":         "é\u00B7x",
		"a\u0300\u203F":     "a\u0300\u203F",
		"\U00010000b":       "\U00010000b",
		"\U000EFFFFb":       "\U000EFFFFb",
		"a\U000F0000":       "a",
		"\uFFFD\uFFFD ":     "\uFFFD\uFFFD",
		"\uFFFD\xFF":        "\uFFFD",
		"a\xFF":             "a",
		"a\xFFb":            "a",
		"a\xC3":             "a",
		"aé\xA9":            "aé",
		"a\xEF\xBF":         "a",
		"a\xEF\xBF\xBE":     "a",
		"a\xED\xA0\x80":     "a",
		"a\xC1\xA1":         "a", // an a in two bytes
		"a\xF4\x90\x80\x80": "a",
		"":                  "",
		" a":                "",
		"-a":                "",
		".a":                "",
		"1":                 "",
		"\u00B7a":           "",
		"\u0300a":           "",
		"\u203Fa":           "",
		"×":                 "",
		"\x00":              "",
		"\x80a":             "",
		"\xFFa":             "",
		"\xC3":              "",
		"\xC1\xA1":          "",
		"\xEF\xBF":          "",
		"\xED\xA0\x80a":     "",
		"\xF4\x90\x80\x80a": "",
	} {
		names(t, s, want)
	}
	long := strings.Repeat("aé", 100000)
	names(t, long+" "+long, long)
}

func TestNameOfEachPoint(t *testing.T) { // E4: at the head, and behind it
	for c := range 1 << 21 {
		s, isFirst, isBehind := encoded(c, fewest(c)), "", "a"
		if in(c, starts()) {
			isFirst = s + "-"
		}
		if in(c, parts()) {
			isBehind = "a" + s + "z"
		}
		names(t, s+"-", isFirst)
		names(t, "a"+s+"z", isBehind)
	}
}

func TestPlain(t *testing.T) { // E5
	for s, want := range map[string]bool{
		"a":          true,
		"_":          true,
		"x-1.é":      true,
		"\uFFFD":     true,
		"a\u00B7":    true,
		"":           false,
		":":          false,
		":a":         false,
		"a:":         false,
		"a:b":        false,
		"a::b":       false,
		"a:b:c":      false,
		"a b":        false,
		"a ":         false,
		" a":         false,
		"a\n":        false,
		"a>":         false,
		"1":          false,
		"-a":         false,
		"a×":         false,
		"a\xFF":      false,
		"\xFF":       false,
		"a\xC1\xBA":  false, // a colon in two bytes
		"a\xEF\xBF":  false,
		"\u0300":     false,
		"a\uFFFEb":   false,
		"a \u0300:b": false,
	} {
		if glyph.Plain(s) != want {
			t.Errorf("Plain %q: %v", s, !want)
		}
	}
}

func TestPlainWithAColon(t *testing.T) { // E5: at each place
	s := "aé-1.\uFFFD\u00B7😀z"
	if !glyph.Plain(s) {
		t.Errorf("Plain %q: false", s)
	}
	for at := range len(s) + 1 {
		if x := s[:at] + ":" + s[at:]; glyph.Plain(x) {
			t.Errorf("Plain %q: true", x)
		}
		if x := s[:at] + ":"; glyph.Plain(x) {
			t.Errorf("Plain %q: true", x)
		}
	}
}

func TestTextsOfPieces(t *testing.T) { // E2, E4, E5
	texts(pieces(), 4, func(s string) {
		checks(t, s, isText(s))
		names(t, s, name(s))
		if got := glyph.Plain(s); got != isPlain(s) {
			t.Fatalf("Plain %q: %v", s, got)
		}
	})
}

// goesOn tells whether the text begins with what may stand in a name.
func goesOn(s string) bool {
	c, n := first(s)
	return n > 0 && glyph.Part(c)
}

func TestNameAndWhatStandsBehindIt(t *testing.T) { // E6
	texts(pieces(), 4, func(s string) {
		name, rest, e := glyph.Name(s)
		if e != api.OK {
			if c, n := first(s); n > 0 && glyph.Start(c) {
				t.Fatalf("Name %q: %d", s, e)
			}
			return
		}
		if name == "" || name+rest != s || goesOn(rest) {
			t.Fatalf("Name %q: %q, %q", s, name, rest)
		}
		names(t, name, name)
	})
}
