package etag_test

import (
	"strings"
	"testing"

	"broadsheet/api"
)

func TestExample(t *testing.T) { // the chapter's
	reads(t, "\"a\", W/\"b\"", api.Tag{Value: "a"}, api.Tag{Weak: true, Value: "b"})
	says(t, 0, "\"a\"", "", strong("a"), true, false)
	says(t, 412, "*", "", strong("a"), false, false)
}

func TestStar(t *testing.T) { // Q1: with and without space about it
	readsStar(t, "*", " *", "* ", "\t*", "*\t", " * ", "\t*\t", " \t*", "*\t ", " \t \t* \t \t", "  *  ")
}

func TestWhatIsNoStar(t *testing.T) { // Q1: with anything else beside it
	refuses(t, "**", "* *", "*,", ",*", ", *", "* ,", ",*,", "*,*", "*, *", "* , *", "*a", "a*", "*/*", "W/*", "W*", "*W", "*W/", "'*'", "\"*", "*\"", "\\*", "(*)")
	for _, tag := range []string{`"a"`, `W/"a"`, `""`, `"*"`} {
		refuses(t, "*"+tag, tag+"*", "* "+tag, tag+" *", "*,"+tag, tag+",*", "*, "+tag, tag+", *", tag+",*,"+tag, "*"+tag+"*", "*,"+tag+",*", ",*,"+tag, tag+",*,")
	}
	for c := range 256 {
		x := string([]byte{byte(c)})
		if x == " " || x == "\t" {
			readsStar(t, x+"*", "*"+x, x+"*"+x)
			continue
		}
		refuses(t, x+"*", "*"+x, " "+x+"*", x+" *", "* "+x, "*"+x+" ")
		if x != `"` { // a tag
			refuses(t, x+"*"+x)
		}
	}
	reads(t, `"*"`, strong("*"))
	reads(t, `W/"*"`, weak("*"))
	reads(t, ` "*" ,"**"`, strong("*"), strong("**"))
}

func TestOneTag(t *testing.T) { // Q1: weak and strong, with space and commas about it
	for _, value := range []string{"", "a", "1-1", "W/", "W", "*", ",", ",,", "a,b", "/", "\\", "'", "a'b", "é", "\xff", "\xc3", "!", "~", "#", "[]", "&quot;", "%22", "a=b;c", strings.Repeat("xyz", 100)} {
		for _, head := range []string{"", " ", "\t", ",", ", ", " ,", "\t,\t", ",,", " , , ", " \t ,,,\t"} {
			for _, tail := range []string{"", " ", "\t", ",", ", ", " ,", "\t,\t", ",,", " , , ", ",,,\t \t"} {
				reads(t, head+`"`+value+`"`+tail, strong(value))
				reads(t, head+`W/"`+value+`"`+tail, weak(value))
			}
		}
	}
}

func TestManyTags(t *testing.T) { // Q1: in order, weak and strong, as often as they stand there
	for _, between := range []string{",", ", ", " ,", " , ", "\t,", ",\t", ",,", ", ,", " ,\t, ,,  ", ",,,,,"} {
		reads(t, `"a"`+between+`"b"`, strong("a"), strong("b"))
		reads(t, `"b"`+between+`"a"`, strong("b"), strong("a"))
		reads(t, `"a"`+between+`W/"a"`, strong("a"), weak("a"))
		reads(t, `W/"a"`+between+`"a"`, weak("a"), strong("a"))
		reads(t, `""`+between+`""`, strong(""), strong(""))
		reads(t, `","`+between+`W/",,"`+between+`","`, strong(","), weak(",,"), strong(","))
		reads(t, between+`"a"`+between+`W/"b"`+between+`"c"`+between+`""`+between, strong("a"), weak("b"), strong("c"), strong(""))
		reads(t, ` W/"z"`+between+`"y"`+between+`"z"`+between+`W/"y"`+between+`"z"`+"\t", weak("z"), strong("y"), strong("z"), weak("y"), strong("z"))
	}
}

func TestNoCommaBetween(t *testing.T) { // Q1: where one must stand
	for _, a := range []string{`"a"`, `W/"a"`, `""`, `W/""`, `","`} {
		for _, b := range []string{`"b"`, `W/"b"`, `""`, `W/""`, `","`} {
			for _, between := range []string{"", " ", "\t", "  ", " \t ", ";", "; ", "|", ".", "\n", "\r\n", "\x00", "\u00A0", "\uFF0C"} {
				refuses(t, a+between+b, ","+a+between+b+",", b+","+a+between+b, a+between+b+","+a, a+between+","+b+between+a, " "+a+between+b+" ")
			}
		}
	}
}

func TestNoTags(t *testing.T) { // Q1: an empty text, space and commas alone
	check := func(s string) { refuses(t, s) }
	texts("", []string{",", " ", "\t", ", "}, 6, check)
	refuses(t, strings.Repeat(",", 1000), strings.Repeat(" ", 1000), strings.Repeat(" ,\t", 1000))
}

func TestQuotesMissing(t *testing.T) { // Q1: at either end, at both, and one too many
	for _, value := range []string{"", "a", "1-1", "a,b", ",", "*", "é", "\xff", "W/", "W"} {
		for _, head := range []string{"", "W/"} {
			one := head + `"` + value + `"`
			refuses(t, head+`"`+value, head+value+`"`, head+`"`+value+"'", head+"'"+value+`"`, head+"'"+value+"'", one+`"`, `"`+one, one+one)
			refuses(t, head+`"`+value+`, "b`, one+","+head+`"`+value, one+", x", "x, "+one, one+", W", one+", W/", one+", w/"+`"b"`, head+`"`+value+`\""`)
		}
	}
	for _, value := range []string{"a", "1-1", "a,b", "é", "\xff", "W/", "W"} {
		for _, head := range []string{"", "W/"} {
			one := head + `"` + value + `"`
			refuses(t, head+value, one+","+head+value, head+value+","+one, one+","+head+value+`"`, one+","+head+value+",")
		}
	}
	refuses(t, `"`, `"""`, `""""`, `"\""`, `\"a\"`, `"a\"b"`, "a", "a, b", `a"b"`, `"a"b`, `"a"b"c"`, "''", "`a`", "\u201Ca\u201D", "<a>", "W", "W/", "W/a")
}

func TestWeakness(t *testing.T) { // Q1: the one form of what makes a tag weak
	for _, head := range []string{"w/", "W", "w", "/", "W /", "W/ ", " W/ ", "W/\t", "W//", "WW/", "W/W/", "W\\", "W:", "S/", "V/", "W/w/", "w/W/", "W/*", "W/,", "W/\"\"", "\u0174/", "\uFF37/", "W\x00/", "W/\x00", "\x00W/"} {
		refuses(t, head+`"a"`, head+`""`, `"b",`+head+`"a"`, head+`"a","b"`, `W/"b",`+head+`"a"`)
	}
	reads(t, `W/"a"`, weak("a"))
	reads(t, `"W/a"`, strong("W/a"))
	reads(t, `W/"W/a"`, weak("W/a"))
	reads(t, `W/"w/"`, weak("w/"))
}

func TestEachByteOfATag(t *testing.T) { // Q1: at each place of a Value
	for c := range 256 {
		x := string([]byte{byte(c)})
		isGood := c == 33 || c >= 35 && c != 127
		for _, value := range []string{x, x + "y", "y" + x, "y" + x + "z", x + x, "é" + x, x + "é"} {
			for _, head := range []string{"", "W/"} {
				one := head + `"` + value + `"`
				switch {
				case isGood:
					want := api.Tag{Weak: head != "", Value: value}
					reads(t, one, want)
					reads(t, ` "b",`+one+`, W/"c"`, strong("b"), want, weak("c"))
				default:
					refuses(t, one, ` "b",`+one+`, W/"c"`, one+","+one)
				}
			}
		}
	}
}

func TestEachByteBetween(t *testing.T) { // Q1: put into a good text at each place, and in the place of each
	for _, good := range []string{"\t\"a\" ,W/\"b*\",, \"\"\t,", "W/\"\",\"c\"", "\" \"", " * "} {
		for at := range len(good) + 1 {
			for c := range 256 {
				x := string([]byte{byte(c)})
				agrees(t, good[:at]+x+good[at:])
				if at < len(good) {
					agrees(t, good[:at]+x+good[at+1:])
				}
			}
			agrees(t, good[:at])
			agrees(t, good[at:])
		}
	}
}

func TestWhatIsNoSpace(t *testing.T) { // Q1: about a star, tags and commas
	for _, x := range []string{"\n", "\r", "\r\n", "\v", "\f", "\x00", "\x1f", "\x7f", "\x85", "\u0085", "\u00A0", "\u2003", "\uFEFF", "\u3000"} {
		refuses(t, x+"*", "*"+x, x, x+`"a"`, `"a"`+x, `"a"`+x+`,"b"`, `"a",`+x+`"b"`, ","+x, `W/`+x+`"a"`, `W`+x+`/"a"`)
	}
	refuses(t, `" a"`, `"a "`, `" "`, "\"\t\"", "\"a\tb\"", "\"a\nb\"")
}

func TestCodePoints(t *testing.T) { // Q1: beyond 127 each byte is good, whatever it is
	for _, x := range []string{"é", "\u0085", "\u00A0", "\u2028", "\uFEFF", "\uFFFD", "\U0001F600", "\xC3", "\xA9", "\x80", "\xff", "\xED\xA0\x80", "\xC0\xA2", "\xF4\x90\x80\x80"} {
		reads(t, `"`+x+`"`, strong(x))
		reads(t, `W/"a`+x+`b",""`, weak("a"+x+"b"), strong(""))
		refuses(t, x, x+`"a"`, `"a"`+x, `"a"`+x+`"b"`, `W`+x+`"a"`)
	}
}

func TestEachText(t *testing.T) { // Q1: of a few good and bad pieces
	check := func(s string) { agrees(t, s) }
	texts("", []string{`"`, "a", "W/", ",", " ", "*"}, 7, check)
	texts("", []string{`"a"`, `W/"b"`, `""`, ",", " ", "\t", "*", `"`}, 6, check)
	texts("", []string{`"`, "W", "/", "w", " ", ",", "\xff", "\x7f", "\n"}, 5, check)
	texts(`"a"`, []string{",", ", ", " ", `"b"`, `W/"c"`, `W/ "d"`, "e", "*", `"\"`}, 5, check)
}

func TestLong(t *testing.T) { // Q1: no length is too great
	const n = 200000
	x := strings.Repeat("Xy,", n)
	reads(t, `"`+x+`"`, strong(x))
	reads(t, strings.Repeat(" ", n)+`W/"`+x+`"`+strings.Repeat(",\t", n)+`""`+strings.Repeat(",", n), weak(x), strong(""))
	readsStar(t, strings.Repeat("\t", n)+"*"+strings.Repeat(" ", n))
	var want []api.Tag
	for range n {
		want = append(want, strong("a"), weak("b"))
	}
	all := strings.Repeat(`"a", W/"b" ,`, n)
	reads(t, all, want...)
	refuses(t, all+"x", all+`"`, all+"*", all+`"a" "b"`, all+`W/`, `"`+x, x, strings.Repeat(`"`, 2*n+1), strings.Repeat("W/", n), strings.Repeat("*", n))
}
