package quality_test

import (
	"slices"
	"strings"
	"testing"

	"broadsheet/quality"
)

// splitsInto fails unless s is split into these pieces.
func splitsInto(t *testing.T, s string, want ...string) {
	t.Helper()
	if got := quality.Split(s); !slices.Equal(got, want) {
		t.Errorf("Split %.80q: %.200q, not %.200q", s, got, want)
	}
}

func TestSplit(t *testing.T) { // N4: in order, each piece as it is
	splitsInto(t, "a", "a")
	splitsInto(t, "a,b", "a", "b")
	splitsInto(t, "b,a,b,c", "b", "a", "b", "c")
	splitsInto(t, "a, b", "a", " b")
	splitsInto(t, " a ,\tb\t, c d ", " a ", "\tb\t", " c d ")
	splitsInto(t, "text/*;q=0.5, text/html, */*;q=0.1", "text/*;q=0.5", " text/html", " */*;q=0.1")
	splitsInto(t, "a;b=c:d/e", "a;b=c:d/e")
	splitsInto(t, "é,\xff,\x00", "é", "\xff", "\x00")
}

func TestCommasAndSpace(t *testing.T) { // N4: commas at the head, at the end and side by side; blanks and tabs alone
	for _, s := range []string{"", ",", ",,", ",,,", " ", "\t", " \t ", " ,", ", ", " , ", ",\t,", " ,\t, \t,"} {
		splitsInto(t, s)
		splitsInto(t, s+",a", "a")
		splitsInto(t, "a,"+s, "a")
		splitsInto(t, "a,"+s+",b", "a", "b")
		splitsInto(t, s+",a,"+s+",b,"+s, "a", "b")
	}
	for _, x := range []string{"\n", "\r", "\v", "\f", "\x00", "\u00A0", "\u2003", "\uFEFF", ";", ".", "\n ", " \r\n\t"} {
		splitsInto(t, x, x) // what is anything else is a piece
		splitsInto(t, "a,"+x+",b", "a", x, "b")
	}
}

func TestCommasBetweenQuotes(t *testing.T) { // N4: behind an odd number of quotes they do not count, behind an even one they do
	splitsInto(t, `"a,b"`, `"a,b"`)
	splitsInto(t, `"a,b",c`, `"a,b"`, "c")
	splitsInto(t, `a;x="b,c",d`, `a;x="b,c"`, "d")
	splitsInto(t, `",",","`, `","`, `","`)
	splitsInto(t, `",","`, `","`, `"`)
	splitsInto(t, `"",""`, `""`, `""`)
	splitsInto(t, `"","`, `""`, `"`)
	splitsInto(t, `""",",""`, `""","`, `""`)
	splitsInto(t, `"a"b,c"d,e"f`, `"a"b`, `c"d,e"f`)
	splitsInto(t, `a"b"c"d,e"f,g`, `a"b"c"d,e"f`, "g")
	splitsInto(t, `" "," "`, `" "`, `" "`)
	splitsInto(t, `"`, `"`)
	splitsInto(t, `"a,b`, `"a,b`)
	splitsInto(t, `a,"b,c,`, "a", `"b,c,`)
	splitsInto(t, `a",b`, `a",b`)
	splitsInto(t, `a",b",c`, `a",b"`, "c")
	splitsInto(t, `",`, `",`)
	splitsInto(t, `",,,`, `",,,`)
	splitsInto(t, `'a,b'`, `'a`, `b'`)
}

func TestBackslashes(t *testing.T) { // N4: behind an odd number of quotes they and the byte behind them are passed over
	splitsInto(t, `"\",",a`, `"\","`, "a")
	splitsInto(t, `"a\",b",c`, `"a\",b"`, "c")
	splitsInto(t, `"\\",a`, `"\\"`, "a")
	splitsInto(t, `"\\\",",a`, `"\\\","`, "a")
	splitsInto(t, `"\\\\",a`, `"\\\\"`, "a")
	splitsInto(t, `"\,",a`, `"\,"`, "a")
	splitsInto(t, `"\a",b`, `"\a"`, "b")
	splitsInto(t, `"\`, `"\`)
	splitsInto(t, `a,"\`, "a", `"\`)
	splitsInto(t, `",\`, `",\`)
	splitsInto(t, `"\"`, `"\"`)
	splitsInto(t, `"\",a`, `"\",a`)
	splitsInto(t, `"a\\",b,"\\`, `"a\\"`, "b", `"\\`)
	splitsInto(t, "\"\\é\",a", "\"\\é\"", "a")
	splitsInto(t, "\"\\\xff\",a", "\"\\\xff\"", "a")
}

func TestBackslashesOutside(t *testing.T) { // N4: behind an even number of quotes they mean nothing
	splitsInto(t, `\,a`, `\`, "a")
	splitsInto(t, `a\,b`, `a\`, "b")
	splitsInto(t, `\\,a`, `\\`, "a")
	splitsInto(t, `\",a"`, `\",a"`)
	splitsInto(t, `\",a",b`, `\",a"`, "b")
	splitsInto(t, `\"\",a`, `\"\",a`)
	splitsInto(t, `""\,a`, `""\`, "a")
	splitsInto(t, `"a"\",b"`, `"a"\",b"`)
	splitsInto(t, `\`, `\`)
	splitsInto(t, `a,\`, "a", `\`)
	splitsInto(t, `,\,`, `\`)
}

func TestEachSplit(t *testing.T) { // N4: of a few pieces, against the model
	check := func(s string) { splitsInto(t, s, splits(s)...) }
	texts("", []string{",", "\"", "\\", "a", " "}, 7, check)
	texts("", []string{",", "\"", "\\", "\t", "\n", "é", "\xff", "\x00", ";", "'"}, 5, check)
	texts("", []string{",", "\"", "\\"}, 10, check)
	for c := range 256 {
		x := string([]byte{byte(c)})
		for _, s := range []string{x, x + ",", "," + x, "a" + x + "b,c", "\"" + x + ",\",a", "\"\\" + x + ",\",a", "\\" + x + ",a\",", " " + x + "\t,a"} {
			check(s)
		}
	}
}

func TestSplitOfMuch(t *testing.T) { // N4: no length is too great
	const n = 200000
	splitsInto(t, strings.Repeat(",", n))
	splitsInto(t, strings.Repeat(" \t,", n))
	splitsInto(t, strings.Repeat("a,", n), slices.Repeat([]string{"a"}, n)...)
	x := `"` + strings.Repeat(`\",\\,`, n) + `"`
	splitsInto(t, x+","+x+",b", x, x, "b")
	splitsInto(t, strings.Repeat(`"\"`, n)+`"`, splits(strings.Repeat(`"\"`, n)+`"`)...)
}
