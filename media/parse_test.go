package media_test

import (
	"maps"
	"mime"
	"strings"
	"testing"

	"broadsheet/api"
	"broadsheet/media"
)

// The bytes of tokens, as the chapter tells them.
const tokenBytes = "ABCDEFGHIJKLMNOPQRSTUVWXYZabcdefghijklmnopqrstuvwxyz0123456789!#$%&'*+-.^_`|~"

func TestParse(t *testing.T) { // M1: no, one and many parameters
	reads(t, "text/html", "text", "html")
	reads(t, "a/b", "a", "b")
	reads(t, "application/atom+xml;type=entry", "application", "atom+xml", "type", "entry")
	reads(t, "Text/HTML; Charset=\"UTF-8\"", "text", "html", "charset", "UTF-8")
	reads(t, "image/*;q=0.5", "image", "*", "q", "0.5")
	reads(t, "a/b;c=d;e=f;g=h;i=j", "a", "b", "c", "d", "e", "f", "g", "h", "i", "j")
	reads(t, `a/b; c=d ;e="f"; g="" ; h="i;j=k" `, "a", "b", "c", "d", "e", "f", "g", "", "h", "i;j=k")
	reads(t, "!#$%&'/*+-.^_`|~;0=9", "!#$%&'", "*+-.^_`|~", "0", "9")
}

func TestStars(t *testing.T) { // M1: the Type is a star just if the Sub is one, too
	reads(t, "*/*", "*", "*")
	reads(t, "a/*", "a", "*")
	reads(t, " */* ; q=1 ", "*", "*", "q", "1")
	reads(t, "*/*;*=*", "*", "*", "*", "*")
	refuses(t, "*/a", "*/a;b=c", " */a ", "*/**", "*/*a", "*/a*", "*/A")
	reads(t, "**/a", "**", "a") // and what has more than a star is none
	reads(t, "*a/b", "*a", "b")
	reads(t, "a*/b", "a*", "b")
	reads(t, "a/**", "a", "**")
	reads(t, "a/b*", "a", "b*")
	refuses(t, "*", "*/", "/*", "**", "*/*/*", "*/* *")
}

func TestSmall(t *testing.T) { // M1: Type, Sub and Names are made small, and Values are not
	reads(t, "ABCDEFGHIJKLMNOPQRSTUVWXYZ/ZYXWVUTSRQPONMLKJIHGFEDCBA;ABCDEFGHIJKLMNOPQRSTUVWXYZ=ABCDEFGHIJKLMNOPQRSTUVWXYZ",
		"abcdefghijklmnopqrstuvwxyz", "zyxwvutsrqponmlkjihgfedcba", "abcdefghijklmnopqrstuvwxyz", "ABCDEFGHIJKLMNOPQRSTUVWXYZ")
	reads(t, `Ab1-Cd/eF.Gh;iJ_=Kl;mN^="Op É"`, "ab1-cd", "ef.gh", "ij_", "Kl", "mn^", "Op É")
	reads(t, "a^/b_`;c|~=D", "a^", "b_`", "c|~", "D")
}

func TestMissing(t *testing.T) { // M1: each part missing or empty
	refuses(t, "", " ", "\t", "/", "a", "a/", "/b", "ab", "//", "a//b", "/a/b", "a/b/", "a/b/c", " / ", ";", ";c=d", "a;c=d", "a/;c=d", "/b;c=d", "/;c=d")
	refuses(t, "a/b;", "a/b ;", "a/b; ", "a/b;;", "a/b;=", "a/b;c", "a/b;c=", "a/b;=d", "a/b;cd", "a/b;c==d", "a/b;=c=d", "a/b=c", "a/bc=d", "a/b c=d", "a/b;\"c\"=d", "a/b;\"c\"")
	refuses(t, "a/b;;c=d", "a/b;c=d;", "a/b;c=d; ", "a/b;c=d ;", "a/b;c=d;;", "a/b;c=d;;e=f", "a/b; ;c=d", "a/b;c=d;e", "a/b;c=d;e=", "a/b;c=d;=f", "a/b;c=de=f", "a/b;c=d e=f", "a/b;c=d,e=f", "a/b;c=;e=f", "a/b;c;e=f")
	refuses(t, "a/b,c/d", "a/b, c/d", ",a/b", "a/b,", "a/b;c=d,e/f", "a:b", "a\\b", "\"a\"/b", "a/\"b\"", "a/b;c='d e'", "(a)/b", "a/b(c)", "a/b (c)")
}

func TestQuoted(t *testing.T) { // M1: Values that are quoted, of no byte, too, and what ends them
	for s, want := range map[string]string{
		`""`: "", `"d"`: "d", `"D e"`: "D e", `" d "`: " d ", "\"\t\"": "\t", `";e=f"`: ";e=f", `"a/b"`: "a/b", `"d,e"`: "d,e", `"="`: "=", `"'"`: "'", `"é"`: "é", "\"\xff\"": "\xff", "\"\x80\"": "\x80",
		`"\""`: `"`, `"\\"`: `\`, `"\\\\"`: `\\`, `"\\\""`: `\"`, `"\"\\"`: `"\`, `"\d"`: "d", `"\d\e"`: "de", `"d\e"`: "de", `"\ "`: " ", "\"\\\t\"": "\t", `"\é"`: "é", "\"\\\xff\"": "\xff", `"\n\t\0"`: "nt0", `"\";e=\""`: `";e="`,
	} {
		reads(t, "a/b;c="+s, "a", "b", "c", want)
		reads(t, "a/b;c="+s+" \t", "a", "b", "c", want)
		reads(t, "a/b;c="+s+"; e="+s, "a", "b", "c", want, "e", want)
		refuses(t, "a/b;c="+s+"d", "a/b;c="+s+`"`, "a/b;c="+s+s, "a/b;c=d"+s, "a/b;c="+s+" d", "a/b;c="+s+`\`, "a/b;c="+s+";", "a/b;c=="+s, "a/b;"+s+"=c", s)
	}
	for _, s := range []string{`"`, `"d`, `"d `, `"d;`, `"\`, `"d\`, `"\"`, `"d\"`, `"\\`, `"\\\`, `"\\\"`, `d"`, `d"e"`, `'d"`, `"d'`, `\"d"`, `\d`, `\`, `"d"\"`, `"""`, `""""`} {
		refuses(t, "a/b;c="+s, "a/b;c="+s+" ", "a/b;c=d;e="+s)
	}
	refuses(t, `a/b;c="d;e=f`, `a/b;c="d\";e=f`, `a/b;c="d;e="f`, `a/b;c="d;e="f"`)
}

func TestTheSameNameTwice(t *testing.T) { // M1: both are told, in order
	reads(t, "a/b;c=1;c=2", "a", "b", "c", "1", "c", "2")
	reads(t, "a/b;c=2;c=1;c=2", "a", "b", "c", "2", "c", "1", "c", "2")
	reads(t, "a/b;c=1;C=1", "a", "b", "c", "1", "c", "1")
	reads(t, `a/b;c="";d=1;C=""`, "a", "b", "c", "", "d", "1", "c", "")
}

func TestSpace(t *testing.T) { // M1: where it may be, and where it may not
	parts := []string{"text", "/", "html", ";", "charset", "=", "utf-8", ";", "Q", "=", `"x"`}
	may := map[int]bool{0: true, 3: true, 4: true, 7: true, 8: true, len(parts): true} // ahead of which part, or behind all
	for _, space := range []string{" ", "\t", "  ", "\t\t", " \t", "\t ", " \t \t  "} {
		all := strings.Join(parts[:3], "") + space + ";" + space + "charset=utf-8" + space + ";" + space + `Q="x"`
		reads(t, space+all+space, "text", "html", "charset", "utf-8", "q", "x")
		for at := range len(parts) + 1 {
			s := strings.Join(parts[:at], "") + space + strings.Join(parts[at:], "")
			if may[at] {
				reads(t, s, "text", "html", "charset", "utf-8", "q", "x")
			} else {
				refuses(t, s)
			}
		}
	}
	refuses(t, "te xt/html", "text/ht ml", "text/html;char set=x", "text/html;charset=u tf", "te\txt/html", "text/ht\tml")
	reads(t, "a/b;c=\" \t\"", "a", "b", "c", " \t")
}

func TestWhatIsNoSpace(t *testing.T) { // M1: wherever it stands
	parts := []string{"text", "/", "html", ";", "charset", "=", "utf-8", ";", "q", "=", `"x"`}
	for _, x := range []string{"\n", "\r", "\r\n", "\v", "\f", "\x00", "\x1f", "\x7f", "\x85", "\u0085", "\u00A0", "\u2003", "\uFEFF", "\n ", " \n", "\r\n\t"} {
		for at := range len(parts) + 1 {
			refuses(t, strings.Join(parts[:at], "")+x+strings.Join(parts[at:], ""))
		}
	}
}

func TestEachByteOfAToken(t *testing.T) { // M1: at a place of each token
	for c := range 256 {
		x := string([]byte{byte(c)})
		small := strings.ToLower(x)
		for _, p := range []struct{ head, tail string }{{"", ""}, {"x", ""}, {"", "x"}, {"x", "y"}} {
			kind, sub := p.head+x+p.tail+"/b;c=d", "a/"+p.head+x+p.tail+";c=d"
			name, value, last := "a/b;"+p.head+x+p.tail+"=d", "a/b;c="+p.head+x+p.tail+";e=f", "a/b;c="+p.head+x+p.tail
			for _, s := range []string{kind, sub, name, value, last} {
				agrees(t, s)
			}
			if strings.IndexByte(tokenBytes, byte(c)) < 0 {
				if x == " " || x == "\t" || x == ";" || x == `"` || x == "/" {
					continue // it means something of its own at some of these places: the model tells what
				}
				refuses(t, kind, sub, name, value, last)
				continue
			}
			if p.head+x+p.tail == "*" {
				refuses(t, kind)
			} else {
				reads(t, kind, p.head+small+p.tail, "b", "c", "d")
			}
			reads(t, sub, "a", p.head+small+p.tail, "c", "d")
			reads(t, name, "a", "b", p.head+small+p.tail, "d")
			reads(t, value, "a", "b", "c", p.head+x+p.tail, "e", "f")
			reads(t, last, "a", "b", "c", p.head+x+p.tail)
		}
	}
}

func TestEachByteThatIsQuoted(t *testing.T) { // M1: and each behind a backslash
	for c := range 256 {
		x := string([]byte{byte(c)})
		isGood := c >= 32 && c != 127 || c == 9
		for _, p := range []struct{ head, tail string }{{"", ""}, {"x", ""}, {"", "x"}, {"x", "y"}, {" ", " "}} {
			plain, behind := "a/b;c=\""+p.head+x+p.tail+"\"", "a/b;c=\""+p.head+"\\"+x+p.tail+"\""
			agrees(t, plain)
			agrees(t, behind)
			agrees(t, plain+";e=f")
			agrees(t, behind+";e=f")
			if !isGood {
				refuses(t, plain, behind, plain+";e=f", behind+";e=f")
				continue
			}
			reads(t, behind, "a", "b", "c", p.head+x+p.tail)
			reads(t, behind+"\t;e=f", "a", "b", "c", p.head+x+p.tail, "e", "f")
			if x != `"` && x != `\` {
				reads(t, plain, "a", "b", "c", p.head+x+p.tail)
				reads(t, plain+" ;e=f", "a", "b", "c", p.head+x+p.tail, "e", "f")
			}
		}
	}
}

func TestEachByteBetween(t *testing.T) { // M1: put into a good text at each place
	const good = "\ttext/a* ; c=D; e=\"f\\\"g\";h=\"\" "
	for at := range len(good) + 1 {
		for c := range 256 {
			x := string([]byte{byte(c)})
			agrees(t, good[:at]+x+good[at:])
			if at < len(good) {
				agrees(t, good[:at]+x+good[at+1:])
			}
		}
		agrees(t, good[:at])
		agrees(t, good[at:])
	}
}

func TestCodePoints(t *testing.T) { // M1: beyond 127 they are none of a token, and may be quoted whatever they are
	for _, x := range []string{"é", "É", "ß", "\u0130", "\u017F", "\u212A", "\u20AC", "\uFF41", "\uFFFD", "\U0001F600", "\u2028", "\u0660", "\xC3", "\xA9", "\xff", "\xED\xA0\x80", "\u0085"} {
		refuses(t, x+"/b", "a/"+x, "a/b;"+x+"=d", "a/b;c="+x, "a"+x+"/b", "a/b"+x, "a/b;c"+x+"=d", "a/b;c=d"+x, x, x+"a/b")
		reads(t, `a/b;c="`+x+`"`, "a", "b", "c", x)
		reads(t, `a/b;c="x\`+x+`y"`, "a", "b", "c", "x"+x+"y")
	}
}

func TestEachText(t *testing.T) { // M1: of a few good and bad pieces
	check := func(s string) { agrees(t, s) }
	texts("", []string{"a", "B", "*", "/", ";", "=", "\"", " ", "\t", ",", "é", "\n"}, 5, check)
	texts("", []string{"a/b", ";", "C", "=", "\"", "\\", " ", "*", "/"}, 6, check)
	texts("a/b", []string{";", "c", "=", "\"", "\\", " ", "\t", "\x00"}, 6, check)
	texts("a/b", []string{";", " ;", "; ", "c=d", "C=\"", "\\", "\"", "=", "\xff"}, 5, check)
	texts("a/b;c=", []string{"\"", "\\", "D", " ", ";", ";e=f", "\x7f", "é"}, 6, check)
}

func TestAsTheLibraryReadsIt(t *testing.T) { // M1: where Go's own library has the same rules
	count := 0
	for _, head := range []string{"a/b", " Text/HTML ", "x+y/z.1\t"} {
		texts(head, []string{";c=d", " ; E=F", ";\tg=\"H i\"", "; j=\"\"", ";k=\";l=m\"", ";n=\"\\\"o\\\\\""}, 4, func(s string) {
			kind, params, err := mime.ParseMediaType(s)
			if err != nil {
				return // a Name with two Values
			}
			m, e := media.Parse(s)
			if e != api.OK || m.Type+"/"+m.Sub != kind {
				t.Fatalf("Parse %q: %q, %d, not %s", s, m, e, kind)
			}
			got := map[string]string{}
			for _, p := range m.Params {
				got[p.Name] = p.Value
			}
			if !maps.Equal(got, params) {
				t.Fatalf("Parse %q: %q, not %q", s, m, params)
			}
			count++
		})
	}
	if count < 1000 {
		t.Errorf("%d texts alone", count)
	}
}

func TestLong(t *testing.T) { // M1: no length is too great
	const n = 200000
	x := strings.Repeat("Xy1", n)
	reads(t, x+"/"+x+";"+x+"="+x, lowered(x), lowered(x), lowered(x), x)
	reads(t, strings.Repeat(" ", n)+"a/b"+strings.Repeat("\t", n)+";"+strings.Repeat(" \t", n)+"c=d"+strings.Repeat(" ", n), "a", "b", "c", "d")
	reads(t, `a/b;c="`+strings.Repeat(`\"\\é `, n)+`"`, "a", "b", "c", strings.Repeat(`"\é `, n))
	var params []string
	for range n {
		params = append(params, "c", "D", "e", "")
	}
	reads(t, "a/b"+strings.Repeat(`;C=D ; e=""`, n), "a", "b", params...)
	refuses(t, "a/b"+strings.Repeat(`;C=D ; e=""`, n)+";", x, x+"/", strings.Repeat("/", n), strings.Repeat(" ", n), "a/b"+strings.Repeat(";", n), `a/b;c="`+strings.Repeat(`\"`, n), `a/b;c="`+strings.Repeat(`\`, 2*n+1)+`"`)
}
