package media_test

import (
	"mime"
	"strings"
	"testing"

	"broadsheet/api"
	"broadsheet/media"
)

// prints fails unless m is told as want.
func prints(t *testing.T, m api.Media, want string) {
	t.Helper()
	if got := media.Print(m); got != want {
		t.Errorf("Print %.80q: %.80q, not %.80q", m, got, want)
	}
}

func TestPrint(t *testing.T) { // M4
	prints(t, of("text", "html"), "text/html")
	prints(t, of("*", "*"), "*/*")
	prints(t, of("a", "*", "q", "0.5"), "a/*; q=0.5")
	prints(t, of("application", "atom+xml", "type", "entry"), "application/atom+xml; type=entry")
	prints(t, of("a", "b", "c", "d", "e", "f g", "h", ""), `a/b; c=d; e="f g"; h=""`)
	prints(t, of("a", "b", "c", "1", "c", "2", "c", "1"), "a/b; c=1; c=2; c=1")
	prints(t, api.Media{Type: "a", Sub: "b", Params: []api.Pair{}}, "a/b")
}

func TestPrintOfValues(t *testing.T) { // M4: tokens as they are, all else quoted
	for value, want := range map[string]string{
		"d": "d", "UTF-8": "UTF-8", "0.5": "0.5", "*": "*", tokenBytes: tokenBytes, "'d'": "'d'",
		"": `""`, " ": `" "`, "d ": `"d "`, " d": `" d"`, "d e": `"d e"`, "\t": "\"\t\"", "d;e=f": `"d;e=f"`, "d,e": `"d,e"`, "a/b": `"a/b"`, "=": `"="`, "(d)": `"(d)"`, "{": `"{"`, "@": `"@"`,
		`"`: `"\""`, `\`: `"\\"`, `""`: `"\"\""`, `\\`: `"\\\\"`, `\"`: `"\\\""`, `"\`: `"\"\\"`, `d"e`: `"d\"e"`, `d\e`: `"d\\e"`, `"d"`: `"\"d\""`, `\n`: `"\\n"`, ` "\ `: `" \"\\ "`,
		"é": `"é"`, "dé": `"dé"`, "éd": `"éd"`, "\xff": "\"\xff\"", "d\xC3": "\"d\xC3\"", "\uFFFD": "\"\uFFFD\"", "\x00": "\"\x00\"", "d\n": "\"d\n\"", "\r\n": "\"\r\n\"", "\x7f": "\"\x7f\"",
	} {
		prints(t, of("a", "b", "c", value), "a/b; c="+want)
		prints(t, of("a", "b", "c", value, "e", "f", "g", value), "a/b; c="+want+"; e=f; g="+want)
	}
}

func TestPrintOfEachByte(t *testing.T) { // M4: alone, and at the ends and in the middle of a Value
	for c := range 256 {
		x := string([]byte{byte(c)})
		for _, value := range []string{x, x + "y", "y" + x, "y" + x + "z", x + x} {
			want := `"` + strings.ReplaceAll(value, x, map[bool]string{true: `\` + x, false: x}[x == `"` || x == `\`]) + `"`
			if strings.IndexByte(tokenBytes, byte(c)) >= 0 {
				want = value
			}
			prints(t, of("a", "b", "c", value), "a/b; c="+want)
		}
	}
}

func TestPrintOfAnything(t *testing.T) { // M4: nobody asks what the rest is; it is told as it is
	prints(t, api.Media{}, "/")
	prints(t, of("", "", "", ""), `/; =""`)
	prints(t, of("*", "a"), "*/a")
	prints(t, of("Text", "HTML", "Charset", "UTF-8"), "Text/HTML; Charset=UTF-8")
	prints(t, of(`a"`, `\b`, `"c\`, "d"), `a"/\b; "c\=d`)
	prints(t, of("a b", "c;d", "e f", "g"), "a b/c;d; e f=g")
	prints(t, of("\xff", "\x00", "é", "É"), "\xff/\x00; é=\"É\"")
}

func TestPrintOfEach(t *testing.T) { // M4: of Values of a few pieces
	texts("", []string{"d", "\"", "\\", " ", "\t", ";", "é", "\xff", "\x00", "*"}, 5, func(value string) {
		m := of("a", "b", "c", value, "D", value)
		if got, want := media.Print(m), printed(m); got != want {
			t.Fatalf("Print %q: %q, not %q", m, got, want)
		}
	})
}

func TestAsTheLibraryTellsIt(t *testing.T) { // M4: where Go's own library tells it so, too
	texts("d", []string{"e", "F", "\"", "\\", " ", ";", "=", "/", "[", "0"}, 5, func(value string) {
		prints(t, of("a", "b", "c", value), mime.FormatMediaType("a/b", map[string]string{"c": value}))
	})
}

func TestPrintOfMuch(t *testing.T) { // M4: no length is too great
	const n = 100000
	x := strings.Repeat("x", n)
	prints(t, of(x, x, x, x), x+"/"+x+"; "+x+"="+x)
	prints(t, of("a", "b", "c", strings.Repeat(`"\ `, n)), `a/b; c="`+strings.Repeat(`\"\\ `, n)+`"`)
	var params []string
	for range n {
		params = append(params, "c", "d", "e", "")
	}
	prints(t, of("a", "b", params...), "a/b"+strings.Repeat(`; c=d; e=""`, n))
}
