package escape_test

import (
	"strconv"
	"strings"
	"testing"

	"broadsheet/api"
	"broadsheet/escape"
)

// calls are the two calls that expand.
func calls() map[string]func(string) (string, api.Errno) {
	return map[string]func(string) (string, api.Errno){"Expand": escape.Expand, "Value": escape.Value}
}

// expands fails unless both calls answer that.
func expands(t *testing.T, s, want string) {
	t.Helper()
	for call, f := range calls() {
		if got, e := f(s); got != want || e != api.OK {
			t.Errorf("%s %.99q: %.99q, %d, not %.99q", call, s, got, e, want)
		}
	}
}

// refuses fails unless both calls answer ErrRef, and tell nothing.
func refuses(t *testing.T, s string) {
	t.Helper()
	for call, f := range calls() {
		if got, e := f(s); got != "" || e != api.ErrRef {
			t.Errorf("%s %.99q: %.99q, %d", call, s, got, e)
		}
	}
}

// agrees fails unless both calls answer what the chapter's words ask.
func agrees(t *testing.T, s string) {
	t.Helper()
	for call, f := range calls() {
		want, is := expanded(s, call == "Value")
		wantE := api.OK
		if !is {
			wantE = api.ErrRef
		}
		if got, e := f(s); got != want || e != wantE {
			t.Fatalf("%s %.99q: %.99q, %d, not %.99q, %d", call, s, got, e, want, wantE)
		}
	}
}

func TestExpandOfNames(t *testing.T) { // F1
	for name, want := range map[string]string{"lt": "<", "gt": ">", "amp": "&", "quot": `"`, "apos": "'"} {
		ref := "&" + name + ";"
		expands(t, ref, want)
		expands(t, ref+ref, want+want)
		expands(t, "a"+ref, "a"+want)
		expands(t, ref+"a", want+"a")
		expands(t, ";"+ref+";", ";"+want+";")
		expands(t, "a"+ref+"é"+ref+"b", "a"+want+"é"+want+"b")
	}
	expands(t, "&lt;&gt;&amp;&quot;&apos;", "<>&\"'")
}

func TestExpandWithoutReferences(t *testing.T) { // F1: nothing else is changed
	for _, s := range []string{"", "a", ";", "lt;", "#65;", "#x41;", "a;b;c", "<a b=\"'\">", "]]>", "é😀\u2028", "\x00\x1f\x7f"} {
		expands(t, s, s)
	}
}

func TestExpandOfNumbers(t *testing.T) { // F1
	for s, want := range map[string]string{
		"&#65;":             "A",
		"&#x41;":            "A",
		"&#9;&#10;&#13;":    "\t\n\r",
		"&#x9;&#xA;&#xD;":   "\t\n\r",
		"&#xa;&#xd;":        "\n\r",
		"&#32;&#x20;":       "  ",
		"&#38;&#x26;":       "&&",
		"&#59;":             ";",
		"&#127;&#128;":      "\x7f\xC2\x80",
		"&#x7FF;&#x800;":    "\xDF\xBF\xE0\xA0\x80",
		"&#xD7FF;":          "\xED\x9F\xBF",
		"&#xE000;":          "\xEE\x80\x80",
		"&#xFFFD;":          "\xEF\xBF\xBD",
		"&#xFffD;&#xfFFd;":  "\xEF\xBF\xBD\xEF\xBF\xBD",
		"&#x10000;":         "\xF0\x90\x80\x80",
		"&#x1F600;":         "\xF0\x9F\x98\x80",
		"&#x1f600;":         "\xF0\x9F\x98\x80",
		"&#128512;":         "\xF0\x9F\x98\x80",
		"&#x10FFFF;":        "\xF4\x8F\xBF\xBF",
		"&#1114111;":        "\xF4\x8F\xBF\xBF",
		"&#xabc;&#xABC;":    "\u0abc\u0abc",
		"&#xDEF;&#xdef;":    "\u0def\u0def",
		"&#x1234;&#x56789;": "\u1234\U00056789",
		"&#1234;&#567890;":  "\u04D2\U0008AA52",
		"&#00065;&#x00041;": "AA",
	} {
		expands(t, s, want)
	}
}

func TestExpandOfEachNumber(t *testing.T) { // F1: those that may be in a document, and no others
	for n := range int64(0x120000) {
		decimal, hex := strconv.FormatInt(n, 10), strconv.FormatInt(n, 16)
		for _, s := range []string{"&#" + decimal + ";", "&#x" + hex + ";", "&#x" + strings.ToUpper(hex) + ";"} {
			got, e := escape.Expand(s)
			if isChar(n) && (got != utf8(n) || e != api.OK) || !isChar(n) && (got != "" || e != api.ErrRef) {
				t.Fatalf("Expand %q: %q, %d", s, got, e)
			}
		}
	}
}

func TestExpandOfManyNoughts(t *testing.T) { // F1
	for _, n := range []int{1, 5, 9, 10, 15, 16, 19, 20, 31, 32, 63, 64, 65, 100000} {
		noughts := strings.Repeat("0", n)
		expands(t, "&#"+noughts+"65;", "A")
		expands(t, "&#x"+noughts+"41;", "A")
		expands(t, "&#"+noughts+"1114111;", "\U0010FFFF")
		expands(t, "&#x"+noughts+"10ffff;", "\U0010FFFF")
		refuses(t, "&#"+noughts+";")
		refuses(t, "&#x"+noughts+";")
		refuses(t, "&#"+noughts+"1114112;")
		refuses(t, "&#x"+noughts+"110000;")
		refuses(t, "&#"+noughts+"x41;")
		refuses(t, "&#x"+noughts+"x41;")
	}
}

func TestExpandOfGreatNumbers(t *testing.T) { // F1: none of them is taken for what its last bits are
	refuses(t, "&#1114112;")
	refuses(t, "&#9999999;")
	refuses(t, "&#x110000;")
	refuses(t, "&#x1FFFFF;")
	for _, by := range []uint{8, 15, 16, 20} { // these are less: the model tells which may be
		agrees(t, "&#"+strconv.FormatInt(1<<by+'A', 10)+";")
	}
	for by := uint(21); by < 63; by++ {
		n := int64(1)<<by + 'A'
		refuses(t, "&#"+strconv.FormatInt(n, 10)+";")
		refuses(t, "&#x"+strconv.FormatInt(n, 16)+";")
	}
	for _, s := range []string{"2147483647", "2147483648", "2147483713", "4294967295", "4294967296", "4294967361",
		"9223372036854775807", "9223372036854775808", "9223372036854775873", // about 2^63
		"18446744073709551615", "18446744073709551616", "18446744073709551681", // about 2^64
		"36893488147419103297", "340282366920938463463374607431768211521", // 2^65 and 2^128, and 65
		strings.Repeat("9", 19), strings.Repeat("9", 20), strings.Repeat("9", 100000), "1" + strings.Repeat("0", 100000) + "65"} {
		refuses(t, "&#"+s+";")
		refuses(t, "&#0"+s+";")
	}
	for _, s := range []string{"7FFFFFFF", "80000041", "FFFFFFFF", "100000041", "7fffffffffffffff", "8000000000000041", "ffffffffffffffff",
		"10000000000000041", "100000000000000041", "100000000000000000000000000000041", strings.Repeat("f", 100000), "1" + strings.Repeat("0", 100000) + "41"} {
		refuses(t, "&#x"+s+";")
		refuses(t, "&#x0"+s+";")
	}
}

// wrongs are what begins with & and is no reference, whatever stands behind it.
func wrongs() []string {
	return []string{
		"& ", "&;", "& ;", "&&", "&&;", "&&amp;", "&&lt;", "&#;", "&# ;", "&#x;", "&#x ;", "&##65;", "&#&#65;",
		"&LT;", "&Lt;", "&lT;", "&GT;", "&AMP;", "&Amp;", "&QUOT;", "&APOS;", "&nbsp;", "&copy;",
		"&l;", "&t;", "&ltt;", "&llt;", "&g;", "&am;", "&ampl;", "&quo;", "&quote;", "&apo;", "&aposs;", "&ltgt;", "&lt,gt;",
		"& lt;", "&lt ;", "&\tlt;", "&lt\n;", "&a&lt;", "&lt&lt;", "&lt&gt;", "&amp&amp;", "&lt\x00;", "&\xfflt;", "&lt\xff;", "&lé;",
		"&#0;", "&#00;", "&#x0;", "&#1;", "&#8;", "&#x8;", "&#11;", "&#xB;", "&#12;", "&#xc;", "&#14;", "&#xE;", "&#31;", "&#x1F;",
		"&#xD800;", "&#55296;", "&#xDBFF;", "&#xDC00;", "&#xDFFF;", "&#57343;", "&#xFFFE;", "&#65534;", "&#xFFFF;", "&#65535;",
		"&#xD83D;&#xDE00;", "&#1114112;", "&#x110000;",
		"&#X41;", "&#X;", "&#x41x;", "&#xx41;", "&#0x41;", "&#0X41;", "&#x0x41;", "&#o65;", "&#0o65;", "&#b1000001;", "&#0b1000001;", "&x41;", "&65;", "&#u41;",
		"&#4A;", "&#a;", "&#A;", "&#F;", "&#xG;", "&#xg;", "&#x4g;", "&#x`;", "&#x@;", "&#x:;", "&#x/;", "&#:;", "&#/;", "&#6:;",
		"&#+65;", "&#-65;", "&#x+41;", "&#x-41;", "&#+x41;", "&#-x41;", "&#6+5;", "&#--65;", "&#-0;",
		"&# 65;", "&#65 ;", "&#6 5;", "&#x 41;", "&#x41 ;", "&#\t65;", "&#65\n;", "&#x41\r;", "& #65;",
		"&#_65;", "&#6_5;", "&#65_;", "&#x_41;", "&#x4_1;", "&#x41_;", "&#6,5;", "&#6'5;",
		"&#65.;", "&#65.0;", "&#6.5e1;", "&#65e0;", "&#1e2;", "&#x41p0;", "&#6\x005;", "&#65\x00;", "&#65\xff;",
		"&#\u0661;", "&#\uFF16\uFF15;", "&#x\uFF14\uFF11;", "&#x\uFF21;", "&\uFF1B", // digits that are none, letters that are none
		"&lt\uFF1B;", "&#99999999999999999999;", "&%lt;", "&\\lt;", "&<lt;>;",
	}
}

// broken are what is no reference for want of its end.
func broken() []string {
	return []string{"&", "&l", "&lt", "&gt", "&amp", "&quot", "&apos", "&#", "&#6", "&#65", "&#x", "&#x4", "&#x41", "&#x10FFFF", "&#0000065",
		"&lt:", "&lt\n", "&lt ", "&lt<", "&#65,", "&#65 ", "&ltand more", "&\xff", "&é", "&lt\x00"}
}

func TestRefusals(t *testing.T) { // F1, F2: at the head, in the middle and at the end
	for _, s := range wrongs() {
		for _, ahead := range []string{"", "a", "é\t", "\xff", "&lt;", "&#65;", "&amp;", ";", "a&lt;b;"} {
			for _, behind := range []string{"", "a", "\xff\n", ";", "lt;", "65;", "&lt;", "&#x41;", "a&amp;b;", "&", "&;"} {
				refuses(t, ahead+s+behind)
			}
		}
	}
}

func TestReferencesWithoutAnEnd(t *testing.T) { // F1, F2
	for _, s := range broken() {
		for _, ahead := range []string{"", "a", "\xff\n", ";", "&lt;", "&#65;", "a;&amp;b;"} {
			refuses(t, ahead+s)
			refuses(t, ahead+s+"&lt;")  // the next one's end is not its own
			refuses(t, ahead+s+"&#65;") // nor is this one's
			refuses(t, ahead+s+"&")
		}
	}
}

func TestExpandOnce(t *testing.T) { // F1: what comes out is not looked at again
	for s, want := range map[string]string{
		"&amp;lt;":            "&lt;",
		"&amp;amp;":           "&amp;",
		"&amp;amp;lt;":        "&amp;lt;",
		"&amp;":               "&",
		"&amp;&amp;":          "&&",
		"&amp;;":              "&;",
		"&amp;#65;":           "&#65;",
		"&amp;#x41;":          "&#x41;",
		"&#38;lt;":            "&lt;",
		"&#x26;lt;":           "&lt;",
		"&#38;#65;":           "&#65;",
		"&#38;&#35;&#54;5;":   "&#65;",
		"&amp;&#108;t;":       "&lt;",
		"&#38;amp;&lt;&amp;x": "&amp;<&x",
		"&amp;nbsp;":          "&nbsp;",
		"&amp;#0;":            "&#0;",
		"&amp;lt&#59;":        "&lt;",
		"a&lt;&#x41;&amp;lt;": "a<A&lt;",
	} {
		expands(t, s, want)
	}
}

func TestExpandOfBytes(t *testing.T) { // F1, F2: what is no UTF-8 stays, each byte of it
	for c := range 256 {
		x := string([]byte{byte(c)})
		for _, s := range []string{x, x + x, "a" + x + "b", "&lt;" + x, x + "&lt;", "&lt;" + x + "&#65;", "é" + x, x + "é", "\xE2\x82" + x,
			"&" + x, "&" + x + ";", "&" + x + "lt;", "&lt" + x, "&lt" + x + ";", "&l" + x + ";", "&#" + x, "&#" + x + ";", "&#" + x + "65;",
			"&#6" + x + ";", "&#6" + x + "5;", "&#x" + x + ";", "&#x4" + x + ";", "&#x" + x + "41;"} {
			agrees(t, s)
		}
	}
	for _, s := range []string{"\x80", "\xff\xfe", "\xC3", "\xE2\x82", "\xED\xA0\x80", "\xC0\x80", "\xF4\x90\x80\x80", "\xEF\xBF", "\xEF\xBF\xBD", "\x00", "\uFFFE"} {
		expands(t, s, s)
		expands(t, s+"&amp;"+s, s+"&"+s)
		expands(t, "\xC3&lt;"+s+"\xA9", "\xC3<"+s+"\xA9")
	}
}

func TestExpandOfPairsOfBytes(t *testing.T) { // F1, F2: between & and ; there may be no other bytes than the words say
	for a := range 256 {
		for b := range 256 {
			x := string([]byte{byte(a), byte(b)})
			agrees(t, "&"+x+";")
			agrees(t, "&#"+x+";")
			agrees(t, "&#x"+x+";")
		}
	}
}

func TestValue(t *testing.T) { // F2
	for s, want := range map[string]string{
		"\t":                         " ",
		"\n":                         " ",
		"\r":                         " ",
		"\r\n":                       "  ", // each of both
		"\t\n\r":                     "   ",
		" \t \n \r ":                 "       ",
		"a\tb\nc\rd":                 "a b c d",
		"&#9;":                       "\t",
		"&#10;":                      "\n",
		"&#13;":                      "\r",
		"&#x9;&#xA;&#xd;":            "\t\n\r",
		"\t&#9;\t":                   " \t ",
		"\n&#10;\n":                  " \n ",
		"\r&#13;\r":                  " \r ",
		"a\n&#10;":                   "a \n",
		"&#9;\t&#10;\n&#13;\r":       "\t \n \r ",
		"&lt;\n&amp;\t&quot;":        "< & \"",
		"&amp;#10;\n":                "&#10; ",
		"\x08\x0b\x0c\x0e\x1f\x7f":   "\x08\x0b\x0c\x0e\x1f\x7f", // no others are
		"\u00A0\u0085\u2028\u2029":   "\u00A0\u0085\u2028\u2029",
		"\xff\n\xC3\t\xA9\x89\x8a\r": "\xff \xC3 \xA9\x89\x8a ",
		"\u0109\u010A\u0A0A\u0D0D":   "\u0109\u010A\u0A0A\u0D0D",
		"&#x109;&#x10A;&#xA0A;":      "\u0109\u010A\u0A0A",
		"":                           "",
		" ":                          " ",
	} {
		if got, e := escape.Value(s); got != want || e != api.OK {
			t.Errorf("Value %q: %q, %d, not %q", s, got, e, want)
		}
	}
	for _, s := range []string{"\t", "\n", "\r", "\r\n", "a\tb\nc\rd"} { // in a text they stay
		if got, e := escape.Expand(s); got != s || e != api.OK {
			t.Errorf("Expand %q: %q, %d", s, got, e)
		}
	}
}

func TestExpandOfPieces(t *testing.T) { // F1, F2
	texts([]string{"&", "#", "x", ";", "6", "0", "b", "F", "lt", "amp", "\t", "\n", "\xC3", "é"}, 5, func(s string) {
		agrees(t, s)
		agrees(t, "&"+s+";")
	})
	texts([]string{"&lt;", "&#65;", "&#xD;", "&amp;", "lt;", "&", "#10;", "\r", "\x80"}, 5, func(s string) { agrees(t, s) })
}

func TestEscape(t *testing.T) { // F3: each byte that has a form of its own, and all others
	text := map[byte]string{'&': "&amp;", '<': "&lt;", '>': "&gt;", 13: "&#xD;"}
	attr := map[byte]string{'&': "&amp;", '<': "&lt;", '>': "&gt;", 13: "&#xD;", '"': "&quot;", 9: "&#x9;", 10: "&#xA;"}
	for is, forms := range map[bool]map[byte]string{false: text, true: attr} {
		for c := range 256 {
			x := string([]byte{byte(c)})
			want := x
			if form, has := forms[byte(c)]; has {
				want = form
			}
			for s, want := range map[string]string{x: want, x + x: want + want, "a" + x + "b": "a" + want + "b",
				"é" + x + "\xE2": "é" + want + "\xE2", x + "lt;": want + "lt;", "\xC3" + x: "\xC3" + want, x + "<": want + "&lt;"} {
				if got := escape.Escape(s, is); got != want {
					t.Errorf("Escape %q, %v: %q, not %q", s, is, got, want)
				}
			}
		}
	}
}

func TestEscapeOfTexts(t *testing.T) { // F3
	for _, x := range []struct{ s, text, attr string }{
		{"", "", ""},
		{"a", "a", "a"},
		{"a<&>\"'\r\n\t", "a&lt;&amp;&gt;\"'&#xD;\n\t", "a&lt;&amp;&gt;&quot;'&#xD;&#xA;&#x9;"},
		{"&lt;", "&amp;lt;", "&amp;lt;"},
		{"&amp;", "&amp;amp;", "&amp;amp;"},
		{"&#xD;", "&amp;#xD;", "&amp;#xD;"},
		{"]]>", "]]&gt;", "]]&gt;"},
		{"\r\n", "&#xD;\n", "&#xD;&#xA;"},
		{"\x00\xff\xC3", "\x00\xff\xC3", "\x00\xff\xC3"},
		{"é😀\uFFFD\u2028", "é😀\uFFFD\u2028", "é😀\uFFFD\u2028"},
	} {
		if got := escape.Escape(x.s, false); got != x.text {
			t.Errorf("Escape %q, false: %q, not %q", x.s, got, x.text)
		}
		if got := escape.Escape(x.s, true); got != x.attr {
			t.Errorf("Escape %q, true: %q, not %q", x.s, got, x.attr)
		}
	}
}

// comesBack fails unless s is expanded as it was, once it is escaped: as a text and as a value.
func comesBack(t *testing.T, s string) {
	t.Helper()
	for is, f := range map[bool]func(string) (string, api.Errno){false: escape.Expand, true: escape.Value} {
		x := escape.Escape(s, is)
		if strings.ContainsAny(x, "<>") || is && strings.ContainsAny(x, "\"\t\n\r") || strings.Contains(x, "\r") {
			t.Fatalf("Escape %q, %v: %q", s, is, x)
		}
		if got, e := f(x); got != s || e != api.OK {
			t.Fatalf("Escape %q, %v: %q, which is expanded to %q, %d", s, is, x, got, e)
		}
	}
	if got, e := escape.Expand(escape.Escape(s, true)); got != s || e != api.OK { // what is told as a value may be read as a text, too
		t.Fatalf("Expand of Escape %q, true: %q, %d", s, got, e)
	}
}

func TestWhatIsEscapedComesBack(t *testing.T) { // F4
	for a := range 256 {
		for b := range 256 {
			comesBack(t, string([]byte{byte(a), byte(b)}))
		}
	}
	texts([]string{"&", "<", ">", "\"", "'", "\t", "\n", "\r", ";", "#", "x", "lt", "amp", "65", "é", "\xFF"}, 4, func(s string) { comesBack(t, s) })
	texts([]string{"&lt;", "&amp;", "&#xA;", "&", "]]>", "\r\n", "\xC3"}, 5, func(s string) { comesBack(t, s) })
	for _, s := range append(wrongs(), broken()...) {
		comesBack(t, s)
	}
	long := strings.Repeat("a<b>&\"'\t\r\n\xff;", 100000)
	if got, e := escape.Value(escape.Escape(long, true)); got != long || e != api.OK {
		t.Errorf("a long value: %d bytes, %d", len(got), e)
	}
	if got, e := escape.Expand(escape.Escape(long, false)); got != long || e != api.OK {
		t.Errorf("a long text: %d bytes, %d", len(got), e)
	}
}
