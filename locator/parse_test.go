package locator_test

import (
	"strings"
	"testing"
	"unicode/utf8"

	"broadsheet/api"
	"broadsheet/locator"
)

func TestParse(t *testing.T) { // L1: each part there, empty, and missing
	parses(t, "", of(none, none, "", none, none))
	parses(t, "a://b/c?d#e", of("a", "b", "/c", "d", "e"))
	parses(t, "//b/c?d#e", of(none, "b", "/c", "d", "e"))
	parses(t, "a:/c?d#e", of("a", none, "/c", "d", "e"))
	parses(t, "a://b?d#e", of("a", "b", "", "d", "e"))
	parses(t, "a://b/c#e", of("a", "b", "/c", none, "e"))
	parses(t, "a://b/c?d", of("a", "b", "/c", "d", none))
	parses(t, "a:///c?d#e", of("a", "", "/c", "d", "e"))
	parses(t, "a://b/c?#e", of("a", "b", "/c", "", "e"))
	parses(t, "a://b/c?d#", of("a", "b", "/c", "d", ""))
	parses(t, "a://b/c?#", of("a", "b", "/c", "", ""))
	parses(t, "a://?#", of("a", "", "", "", ""))
	parses(t, "a:", of("a", none, "", none, none))
	parses(t, "//", of(none, "", "", none, none))
	parses(t, "//b", of(none, "b", "", none, none))
	parses(t, "/", of(none, none, "/", none, none))
	parses(t, "c", of(none, none, "c", none, none))
	parses(t, "?", of(none, none, "", "", none))
	parses(t, "#", of(none, none, "", none, ""))
	parses(t, "?#", of(none, none, "", "", ""))
	parses(t, "a:c", of("a", none, "c", none, none))
	parses(t, "a:?d", of("a", none, "", "d", none))
	parses(t, "a:#e", of("a", none, "", none, "e"))
	parses(t, "urn:isbn:0-395-36341-1", of("urn", none, "isbn:0-395-36341-1", none, none))
	parses(t, "mailto:a@b.example", of("mailto", none, "a@b.example", none, none))
	parses(t, "tag:example.org,2003:3.2397", of("tag", none, "example.org,2003:3.2397", none, none))
	parses(t, "HTTP://u:p@h.example:80/a/b;c=d?e=f&g=h/?#i/?", of("HTTP", "u:p@h.example:80", "/a/b;c=d", "e=f&g=h/?", "i/?"))
}

func TestFirstOfFour(t *testing.T) { // L1: of : / ? # the first one tells whether there is a Scheme
	parses(t, "a:b:c", of("a", none, "b:c", none, none))
	parses(t, "a:/b", of("a", none, "/b", none, none))
	parses(t, "a/b:c", of(none, none, "a/b:c", none, none))
	parses(t, "/b:c", of(none, none, "/b:c", none, none))
	parses(t, "a?b:c", of(none, none, "a", "b:c", none))
	parses(t, "?b:c", of(none, none, "", "b:c", none))
	parses(t, "a#b:c", of(none, none, "a", none, "b:c"))
	parses(t, "#b:c", of(none, none, "", none, "b:c"))
	parses(t, "//b:c", of(none, "b:c", "", none, none))
	parses(t, "./b:c", of(none, none, "./b:c", none, none))
	parses(t, "abc", of(none, none, "abc", none, none))
	parses(t, "1/b:c", of(none, none, "1/b:c", none, none)) // what would be no Scheme is none
	parses(t, "é?:", of(none, none, "é", ":", none))
}

func TestScheme(t *testing.T) { // L1: a letter, and then letters, digits, +, - and .
	for _, s := range []string{"a", "z", "A", "Z", "aa", "aZ", "Az", "a0", "a9", "a+", "a-", "a.", "a+-.9zZ", "svn+ssh", "A0.0"} {
		parses(t, s+":", of(s, none, "", none, none))
		parses(t, s+"://b", of(s, "b", "", none, none))
	}
	refuses(t, ":", ":a", "://b", ":?", ":#", "::", "1:", "1a:b", "9:b", "+a:b", "-a:b", ".a:b", "_a:b", "a_:b", "a_b:c",
		"~:", "é:", "aé:", "%61:b", "a%61:b", " a:", "a :", "[a]:", "a\n:", "@:", "a@:", "`:", "{:", "a*:", "a,:")
	for c := range 256 {
		first, behind := string([]byte{byte(c)})+"a:b", "a"+string([]byte{byte(c)})+"a:b"
		agrees(t, first)
		agrees(t, behind)
		if strings.IndexByte(":/?#", byte(c)) >= 0 {
			continue
		}
		isLetter := 'A' <= c && c <= 'Z' || 'a' <= c && c <= 'z'
		if isLetter {
			parses(t, first, of(first[:2], none, "b", none, none))
		} else {
			refuses(t, first)
		}
		if isLetter || '0' <= c && c <= '9' || c == '+' || c == '-' || c == '.' {
			parses(t, behind, of(behind[:3], none, "b", none, none))
		} else {
			refuses(t, behind)
		}
	}
}

func TestHost(t *testing.T) { // L1: with and without [ and ], up to / or ? or # or the end
	for _, h := range []string{"", "b", "b:80", "b:", ":80", "u@b", "u:p@b", "[", "]", "[]", "][", "[[", "[::1]", "[::1]:80", "u@[v1.a:b]", "a[b]c", "1.2.3.4", "é", "%5B"} {
		for _, scheme := range []string{none, "a"} {
			head := ""
			if scheme != none {
				head = "a:"
			}
			parses(t, head+"//"+h, of(scheme, h, "", none, none))
			parses(t, head+"//"+h+"/", of(scheme, h, "/", none, none))
			parses(t, head+"//"+h+"/c", of(scheme, h, "/c", none, none))
			parses(t, head+"//"+h+"//c", of(scheme, h, "//c", none, none))
			parses(t, head+"//"+h+"?d/", of(scheme, h, "", "d/", none))
			parses(t, head+"//"+h+"#e/?", of(scheme, h, "", none, "e/?"))
			parses(t, head+"//"+h+"?d#e", of(scheme, h, "", "d", "e"))
		}
	}
	refuses(t, "[", "]", "[::1]", "/[", "/]", "a[", "a:[", "a:]", "?[", "?]", "#[", "#]", "//b/[", "//b/]", "//b?[", "//b?]",
		"//b#[", "//b#]", "[a]://b", "//[::1]/[::1]")
}

func TestMoreThanOne(t *testing.T) { // L1: more than one ?, # and //
	parses(t, "??", of(none, none, "", "?", none))
	parses(t, "a?b?c", of(none, none, "a", "b?c", none))
	parses(t, "?a?b#c", of(none, none, "", "a?b", "c"))
	parses(t, "?a#b?c", of(none, none, "", "a", "b?c"))
	parses(t, "#?", of(none, none, "", none, "?"))
	parses(t, "a#b?c", of(none, none, "a", none, "b?c"))
	parses(t, "//b#c?d", of(none, "b", "", none, "c?d"))
	parses(t, "/c#d?e/f?g", of(none, none, "/c", none, "d?e/f?g"))
	refuses(t, "##", "#a#b", "a##", "?a#b#c", "a:#b#", "//b#c#d", "a#b?c#d")
	parses(t, "///", of(none, "", "/", none, none))
	parses(t, "////", of(none, "", "//", none, none))
	parses(t, "//a//b", of(none, "a", "//b", none, none))
	parses(t, "/a//b", of(none, none, "/a//b", none, none))
	parses(t, "a//b", of(none, none, "a//b", none, none))
	parses(t, "a:b//c", of("a", none, "b//c", none, none))
	parses(t, "a:////b", of("a", "", "//b", none, none))
	parses(t, "?//b", of(none, none, "", "//b", none))
	parses(t, "#//b", of(none, none, "", none, "//b"))
}

// A place is one in a part of a reference: what stands ahead of it and behind it, what may stand there beside signs,
// what begins or ends another part there, and the reference of what stands there.
type place struct {
	name, head, tail, more, ends string
	reads                        func(s string) api.URI
}

// places are in each part but the Scheme: in the middle of it, and at the end of all.
func places() []place {
	return []place{
		{"Host", "a://x", "y/c?d#e", "[]", "/?#", func(s string) api.URI { return of("a", "x"+s+"y", "/c", "d", "e") }},
		{"Path", "a://b/x", "y?d#e", "/", "?#", func(s string) api.URI { return of("a", "b", "/x"+s+"y", "d", "e") }},
		{"Path alone", "./x", "y", "/", "?#", func(s string) api.URI { return of(none, none, "./x"+s+"y", none, none) }},
		{"Query", "a://b/c?x", "y#e", "/?", "#", func(s string) api.URI { return of("a", "b", "/c", "x"+s+"y", "e") }},
		{"Frag", "a://b/c?d#x", "y", "/?", "", func(s string) api.URI { return of("a", "b", "/c", "d", "x"+s+"y") }},
		{"the Host's end", "//", "", "[]", "/?#", func(s string) api.URI { return of(none, s, "", none, none) }},
		{"the Path's end", "/", "", "", "/?#", func(s string) api.URI { return of(none, none, "/"+s, none, none) }},
		{"the Query's end", "?", "", "/?", "#", func(s string) api.URI { return of(none, none, "", s, none) }},
		{"the Frag's end", "#", "", "/?", "", func(s string) api.URI { return of(none, none, "", none, s) }},
	}
}

func TestEachByte(t *testing.T) { // L1: at a place of each part
	const plain = "ABCDEFGHIJKLMNOPQRSTUVWXYZabcdefghijklmnopqrstuvwxyz0123456789-._~!$&'()*+,;=:@"
	for _, p := range places() {
		for c := range 256 {
			x := string([]byte{byte(c)})
			s := p.head + x + p.tail
			agrees(t, s)
			if strings.Contains(plain+p.more, x) {
				parses(t, s, p.reads(x))
			} else if !strings.Contains(p.ends, x) {
				refuses(t, s)
			}
		}
	}
}

func TestPercent(t *testing.T) { // L1: two digits to the base 16 behind it, each pair of bytes
	hex := "0123456789ABCDEFabcdef"
	for _, p := range places() {
		for a := range 256 {
			for b := range 256 {
				x := string([]byte{'%', byte(a), byte(b)})
				s := p.head + x + p.tail
				if strings.IndexByte(hex, byte(a)) >= 0 && strings.IndexByte(hex, byte(b)) >= 0 {
					parses(t, s, p.reads(x))
				} else {
					refuses(t, s)
				}
			}
		}
		for _, x := range []string{"%00", "%20", "%ff", "%2F", "%3f%23", "%25", "%41a", "%4141", "%aF%Fa", "é%C3", "%C3é"} {
			parses(t, p.head+x+p.tail, p.reads(x))
		}
		for _, x := range []string{"%", "%%", "%%41", "%4%41", "%41%", "%41%4", "%4%1", "%g1", "%1g", "%é", "%4é", "% 41", "%+4", "%-1", "%0x41", "%u0041"} {
			refuses(t, p.head+x+p.tail)
		}
	}
	refuses(t, "%", "%4", "%g", "//%", "//%4", "/%", "/%4", "?%", "?%4", "#%", "#%4", "a:%", "a:%4")
	refuses(t, "//%/41", "//%4/1", "//%?41", "//%4#1", "/%?41", "/%4?1", "/%#41", "/%4#1", "?%#41", "?%4#1", "%/41", "%4/1") // not beyond the part's end
}

func TestCodePoints(t *testing.T) { // L1: bytes above 127 that are code points, and such that are none
	for _, p := range places() {
		for _, x := range []string{"\u0080", "\u00A0", "é", "\u07FF", "\u0800", "\u20AC", "\u2028", "\uD7FF", "\uE000", "\uFEFF",
			"\uFFFD", "\U00010000", "\U0001F600", "\U0001FFFE", "\U000F0000", "\U0010FFFF", "éé", "é\uFFFDé"} {
			parses(t, p.head+x+p.tail, p.reads(x))
		}
		for _, x := range []string{"\x80", "\xBF", "\xC3", "\xA9", "\xC0\x80", "\xC1\xBF", "\xE0\x80\x80", "\xE0\x9F\xBF", "\xE2\x82",
			"\xED\xA0\x80", "\xED\xBF\xBF", "\xEF\xBF", "\xF0\x8F\xBF\xBF", "\xF0\x9F\x98", "\xF4\x90\x80\x80", "\xF8\x88\x80\x80\x80",
			"\xFE", "\xFF", "é\xC3", "\xC3é", "\uFFFE", "\uFFFF"} {
			refuses(t, p.head+x+p.tail)
		}
	}
	refuses(t, "\xC3#\xA9", "?\xC3#\xA9", "//\xC3/\xA9") // not even where they would be one together
}

func TestEachCodePoint(t *testing.T) { // L1: above 127, in each of the four parts
	for c := rune(128); c <= utf8.MaxRune; c++ {
		x := string(c)
		if !utf8.ValidRune(c) {
			continue
		}
		s := "//" + x + "/" + x + "?" + x + "#" + x
		want, fault := of(none, x, "/"+x, x, x), api.OK
		if c == 0xFFFE || c == 0xFFFF {
			want, fault = api.URI{}, api.ErrIRI
		}
		if got, e := locator.Parse(s); got != want || e != fault {
			t.Fatalf("Parse %q: %+v, %d, not %+v, %d", s, got, e, want, fault)
		}
	}
}

func TestNoText(t *testing.T) { // L1: wherever it is that a text is none, and whatever else may be wrong
	for _, x := range []string{"\x00", "\x01", "\x08", "\x0B", "\x0C", "\x0E", "\x1F", "\x7F", "\t", "\n", "\r", " ", "\"", "<", ">", "\\", "^", "`", "{", "|", "}", "\uFFFE", "\xFF"} {
		refuses(t, x, x+"a", "a"+x, x+":", "a"+x+":", "a:"+x, "//"+x, "//"+x+"/", "/"+x, "?"+x, "#"+x, x+"a://b/c?d#e", "a://b/c?d#e"+x,
			":"+x, "%"+x, "##"+x, "1:"+x)
	}
}

func TestEachText(t *testing.T) { // L1: of a few good and bad pieces
	texts([]string{":", "/", "//", "?", "#", "a", "1", "+", "_", "[", "]", "%", "41", "%c3", "é", "\xC3", "\n"}, 4, func(s string) { agrees(t, s) })
	texts([]string{":", "/", "?", "#", "a", "["}, 6, func(s string) { agrees(t, s) })
}

func TestLong(t *testing.T) { // L1: there is no length that is too great
	x := strings.Repeat("aé%41", 100000)
	parses(t, "a://"+x+"/"+x+"?"+x+"#"+x, of("a", x, "/"+x, x, x))
	parses(t, strings.Repeat("a", 100000)+":", of(strings.Repeat("a", 100000), none, "", none, none))
	refuses(t, "//"+x+"%", x+"?"+x+"#"+x+"#", strings.Repeat("a", 100000)+"_:")
}
