package scribe_test

import (
	"strings"
	"testing"

	"broadsheet/api"
	"broadsheet/scribe"
)

func TestElements(t *testing.T) { // J1
	is(t, el("", "a", nil), "<a/>")
	is(t, api.Node{Name: "a", Attrs: []api.Attr{}, Kids: []api.Node{}}, "<a/>")
	is(t, el("", "é-1.😀", nil), "<é-1.😀/>")
	is(t, el("", "xml", nil), "<xml/>") // of an instruction alone it may not be the name
	is(t, el("", "xmlns", nil), "<xmlns/>")
	is(t, el("u", "xmlns", nil), `<xmlns xmlns="u"/>`)
	is(t, el("", "a", nil, el("", "b", nil)), "<a><b/></a>")
	is(t, el("", "a", nil, el("", "a", nil), el("", "a", nil)), "<a><a/><a/></a>")
	is(t, el("", "a", nil, el("", "b", nil, el("", "c", nil)), el("", "d", nil)), "<a><b><c/></b><d/></a>")
	is(t, el("", "a", nil, text("x")), "<a>x</a>")
	is(t, el("", "a", nil, text("x"), el("", "b", nil), text("x")), "<a>x<b/>x</a>")
	is(t, el("", "a", nil, el("", "b", nil, text("x")), text("y")), "<a><b>x</b>y</a>")
	is(t, el("", "a", attrs("", "b", "1"), el("", "c", attrs("", "d", "2"), text("x"))), `<a b="1"><c d="2">x</c></a>`)
	is(t, el("u", "a", attrs("v", "b", "1"), text("<")), `<a xmlns="u" xmlns:n0="v" n0:b="1">&lt;</a>`)
}

func TestSpaces(t *testing.T) { // J1: a space is told just where it is another one than that of the element about it
	is(t, el("u", "a", nil), `<a xmlns="u"/>`)
	is(t, el("u", "a", nil, el("u", "b", nil)), `<a xmlns="u"><b/></a>`)
	is(t, el("u", "a", nil, el("v", "b", nil)), `<a xmlns="u"><b xmlns="v"/></a>`)
	is(t, el("", "a", nil, el("u", "b", nil)), `<a><b xmlns="u"/></a>`)
	is(t, el("u", "a", nil, el("", "b", nil)), `<a xmlns="u"><b xmlns=""/></a>`)
	is(t, el("u", "a", nil, el("", "b", nil, el("", "c", nil))), `<a xmlns="u"><b xmlns=""><c/></b></a>`)
	is(t, el("u", "a", nil, el("", "b", nil, el("u", "c", nil))), `<a xmlns="u"><b xmlns=""><c xmlns="u"/></b></a>`)
	is(t, el("u", "a", nil, el("v", "b", nil), el("u", "c", nil), el("v", "d", nil)), `<a xmlns="u"><b xmlns="v"/><c/><d xmlns="v"/></a>`) // beside one another they do not count
	is(t, el("u", "a", nil, text("x"), el("v", "b", nil, el("v", "c", nil)), el("u", "d", nil, text("y"))), `<a xmlns="u">x<b xmlns="v"><c/></b><d>y</d></a>`)
	is(t, el("u", "a", nil, el("U", "b", nil), el("u ", "b", nil)), `<a xmlns="u"><b xmlns="U"/><b xmlns="u "/></a>`)
	is(t, el("\t\n\r\"&<>' ", "a", nil), `<a xmlns="&#x9;&#xA;&#xD;&quot;&amp;&lt;&gt;' "/>`)
	is(t, el("xml", "a", nil, el("xmlns", "b", nil)), `<a xmlns="xml"><b xmlns="xmlns"/></a>`)
	is(t, el(xmls+"/", "a", nil, el(xmlnss[:len(xmlnss)-1], "b", nil)), `<a xmlns="`+xmls+`/"><b xmlns="http://www.w3.org/2000/xmlns"/></a>`) // no other space is refused
	for _, a := range []string{"", "u", "v", "\n"} {
		for _, b := range []string{"", "u", "v", "\n"} {
			for _, c := range []string{"", "u", "v", "\n"} {
				s, e := agrees(t, el(a, "a", nil, el(b, "b", nil, el(c, "c", nil)), el(c, "d", nil)))
				if e != api.OK || strings.Count(s, " xmlns=") != count(a != "", a != b, b != c, a != c) {
					t.Errorf("%q, %q, %q: %q, %d", a, b, c, s, e)
				}
				comesBack(t, el(a, "a", nil, el(b, "b", nil, el(c, "c", nil)), el(c, "d", nil)), s)
			}
		}
	}
}

// count is how many of them are true.
func count(l ...bool) (n int) {
	for _, x := range l {
		if x {
			n++
		}
	}
	return n
}

func TestAttributes(t *testing.T) { // J1: in order, each declared ahead of itself, with a prefix by its place
	for s, l := range map[string][]api.Attr{
		``:                                             nil,
		` b=""`:                                        attrs("", "b", ""),
		` b="1"`:                                       attrs("", "b", "1"),
		` c="1" b="2" a="3"`:                           attrs("", "c", "1", "", "b", "2", "", "a", "3"),
		` b="1" B="1" é="1"`:                           attrs("", "b", "1", "", "B", "1", "", "é", "1"),
		` xmlns:n0="u" n0:b="1"`:                       attrs("u", "b", "1"),
		` b="1" xmlns:n1="u" n1:b="2"`:                 attrs("", "b", "1", "u", "b", "2"),
		` xmlns:n0="u" n0:b="1" b="2"`:                 attrs("u", "b", "1", "", "b", "2"),
		` xml:b="1"`:                                   attrs(xmls, "b", "1"),
		` xml:b="1" b="2"`:                             attrs(xmls, "b", "1", "", "b", "2"),
		` xml:xml="1" xml:xmlns="2" xml=""`:            attrs(xmls, "xml", "1", xmls, "xmlns", "2", "", "xml", ""),
		` xmlns:n0="u" n0:xmlns="1"`:                   attrs("u", "xmlns", "1"), // with a space it declares nothing
		` n0="1" xmlns:n1="u" n1:n0="2"`:               attrs("", "n0", "1", "u", "n0", "2"),
		` xmlns:n0="xml" n0:b="1"`:                     attrs("xml", "b", "1"),
		` xmlns:n0="xmlns" n0:b="1"`:                   attrs("xmlns", "b", "1"),
		` xmlns:n0="` + xmls + `/" n0:b=""`:            attrs(xmls+"/", "b", ""),
		` xmlns:n0="u" n0:b="1" xmlns:n1="u" n1:c="2"`: attrs("u", "b", "1", "u", "c", "2"), // again, though it is the same
		` xmlns:n0="u" n0:b="1" xmlns:n1="v" n1:b="2"`: attrs("u", "b", "1", "v", "b", "2"),
		` xml:b="1" c="2" xmlns:n2="u" n2:b="3" d="4" xmlns:n4="v" n4:b="5"`:      attrs(xmls, "b", "1", "", "c", "2", "u", "b", "3", "", "d", "4", "v", "b", "5"),
		` b="&#x9;&#xA;&#xD;&quot;&amp;&lt;&gt;' "`:                               attrs("", "b", "\t\n\r\"&<>' "),
		` b="&amp;lt;&amp;#10;]]&gt;"`:                                            attrs("", "b", "&lt;&#10;]]>"),
		` xml:b="&#xA;" xmlns:n1="&quot;&#x9;" n1:b="&#xD;"`:                      attrs(xmls, "b", "\n", "\"\t", "b", "\r"),
		` xmlns:n0="&#xA;" n0:b="" xmlns:n1=" " n1:b="" xmlns:n2="&amp;" n2:b=""`: attrs("\n", "b", "", " ", "b", "", "&", "b", ""),
	} {
		is(t, el("", "a", l), "<a"+s+"/>")
		is(t, el("u", "a", l), `<a xmlns="u"`+s+"/>") // the element's own space is no help to them
		is(t, el("", "a", l, el("", "a", l), text("x")), "<a"+s+"><a"+s+"/>x</a>")
		is(t, el("u", "a", l, el("u", "b", l)), `<a xmlns="u"`+s+"><b"+s+"/></a>") // nor is what is declared further out
		is(t, el("u", "a", l, el("v", "b", l, el("", "c", l))), `<a xmlns="u"`+s+`><b xmlns="v"`+s+`><c xmlns=""`+s+"/></b></a>")
	}
	all := listed(24, "u", "1")
	want := ""
	for _, i := range strings.Fields("0 1 2 3 4 5 6 7 8 9 10 11 12 13 14 15 16 17 18 19 20 21 22 23") {
		want += ` xmlns:n` + i + `="u" n` + i + `:b` + i + `="1"`
	}
	is(t, el("w", "a", all), `<a xmlns="w"`+want+"/>")
	is(t, nested(29, el("w", "a", all)), strings.Repeat("<a>", 29)+`<a xmlns="w"`+want+"/>"+strings.Repeat("</a>", 29))
}

func TestTexts(t *testing.T) { // J1
	for data, want := range map[string]string{
		"x":                "x",
		" ":                " ",
		"\t\n":             "\t\n", // these are not told by references, as in a value they are
		"\r":               "&#xD;",
		"\r\n\r":           "&#xD;\n&#xD;",
		"<>&":              "&lt;&gt;&amp;",
		"\"'":              "\"'",
		"]]>":              "]]&gt;",
		"<![CDATA[x]]>":    "&lt;![CDATA[x]]&gt;",
		"<!--x-->":         "&lt;!--x--&gt;",
		"&lt;&#10;&amp;":   "&amp;lt;&amp;#10;&amp;amp;",
		"é😀\u2028\uFFFD":   "é😀\u2028\uFFFD",
		"\uFEFF\u0085\x7f": "\uFEFF\u0085\x7f",
	} {
		is(t, el("", "a", nil, text(data)), "<a>"+want+"</a>")
		is(t, el("u", "a", attrs("v", "b", ""), text(data)), `<a xmlns="u" xmlns:n0="v" n0:b="">`+want+"</a>")
		is(t, el("", "a", nil, text(data), el("", "b", nil, text(data)), text(data)), "<a>"+want+"<b>"+want+"</b>"+want+"</a>")
		is(t, el("", "a", nil, text(data), comment("c"), text(data), instr("p", ""), text(data)), "<a>"+want+"<!--c-->"+want+"<?p?>"+want+"</a>")
	}
}

func TestComments(t *testing.T) { // J1: Data as it is
	for _, data := range []string{"", "x", " ", "\t\n", "-x", "- -x", " - ", "->", ">", "!", "!->", "<!-x", "&lt;", "&", "<a b='1'>", "]]>", "?>", "\"'", "é😀\uFFFD", "- "} {
		is(t, el("", "a", nil, comment(data)), "<a><!--"+data+"--></a>")
		is(t, el("u", "a", nil, comment(data), comment(data), el("u", "b", nil), text("x"), comment(data)), `<a xmlns="u"><!--`+data+"--><!--"+data+"--><b/>x<!--"+data+"--></a>")
	}
	for _, data := range []string{"--", "---", "x--", "--x", "x--y", "-->", "<!-- -->", "-", "x-", " -", "->-", "\n-", "\r", "x\ry", "\r\n", "\r-", "\x00", "\xff", "\uFFFE", "x\x0b", "\xED\xA0\x80"} {
		isNot(t, comment(data))
	}
}

func TestInstructions(t *testing.T) { // J1: a blank stands ahead of Data alone
	for _, name := range []string{"p", "é", "_", "p-1.", "xmlns", "xm", "xmll", "axml", "xml-", "xml1", "XMLx", "x"} {
		is(t, el("", "a", nil, instr(name, "")), "<a><?"+name+"?></a>")
		for _, data := range []string{"q", "q ", "q\t\n", "?", "??", "? >", ">", ">?", "q?", "<a b='1'>", "&lt;", "&", "--", "-->", "]]>", "\"'", "é😀\uFFFD", "\u00A0", "\uFEFFq", "x  y"} {
			is(t, el("", "a", nil, instr(name, data)), "<a><?"+name+" "+data+"?></a>")
			is(t, el("u", "a", nil, instr(name, data), instr(name, ""), el("u", "b", nil), instr(name, data)), `<a xmlns="u"><?`+name+" "+data+"?><?"+name+"?><b/><?"+name+" "+data+"?></a>")
		}
		for _, data := range []string{"?>", "q?>", "?>q", "??>", " ", " q", "\tq", "\nq", "\rq", "\n", "\t", "\r", "q\r", "q\r\nr", "\x00", "q\xff", "\uFFFE", "q\x0b", "\xED\xA0\x80"} {
			isNot(t, instr(name, data))
		}
	}
	for _, name := range []string{"", "xml", "XML", "Xml", "xMl", "xmL", "XMl", "XmL", "xML", "p:q", ":", ":p", "p:", "xml:p", "1", "-", ".p", "p q", " p", "p ", "p?", "p>", "p\n", "\x00", "p\xff", "\xff", "\uFFFE", "×", "\xED\xA0\x80"} {
		isNot(t, instr(name, ""))
		isNot(t, instr(name, "q"))
	}
}

// isNot fails unless trees in which that node stands are refused, wherever it stands.
func isNot(t *testing.T, n api.Node) {
	t.Helper()
	refuses(t, n, api.ErrForm)
	for _, x := range []api.Node{
		el("", "a", nil, n),
		el("u", "a", attrs("", "b", "1"), n),
		el("", "a", nil, el("", "b", nil), n),
		el("", "a", nil, n, el("", "b", nil)),
		el("", "a", nil, comment("c"), n, instr("p", "")),
		el("", "a", nil, el("", "b", nil, el("", "c", nil, n)), el("", "d", nil)),
		nested(30, n),
		nested(29, n),
	} {
		refuses(t, x, api.ErrForm)
	}
}

func TestNoElements(t *testing.T) { // J1: what is told is an element
	refuses(t, api.Node{}, api.ErrForm)
	refuses(t, text("x"), api.ErrForm)
	refuses(t, comment("c"), api.ErrForm)
	refuses(t, instr("p", "q"), api.ErrForm)
	for _, kind := range []int{-1, 4, 5, 1 << 8, 1 << 32, -1 << 63, 1<<63 - 1} {
		isNot(t, api.Node{Kind: kind})
		isNot(t, api.Node{Kind: kind, Name: "a"})
		isNot(t, api.Node{Kind: kind, Data: "x"})
		isNot(t, api.Node{Kind: kind, Name: "p", Data: "q"})
	}
}

// notTexts are what no text in a tree may be.
func notTexts() []string {
	return []string{"\x00", "\x01", "\x08", "\x0b", "\x0c", "\x0e", "\x1f", "x\x00", "\x80", "\xff", "x\xffy", "\xC3", "\xE2\x82", "\xC0\x80", "\xED\xA0\x80", "\xEF\xBF\xBE", "\xEF\xBF\xBF", "\xF4\x90\x80\x80", "\uFFFE", "x\uFFFF"}
}

func TestElementsThatMayNotBe(t *testing.T) { // J1
	for _, name := range []string{"", "a:b", ":", ":a", "a:", "xml:a", "xmlns:a", "1", "1a", "-a", ".", "a b", " a", "a ", "a\n", "a/", "a>", "<a", "a=", "a\"", "×", "a×", "\u037E", "\u2000"} {
		isNot(t, el("", name, nil))
		isNot(t, el("u", name, nil, text("x")))
	}
	for _, s := range notTexts() {
		isNot(t, el("", s, nil))
		isNot(t, el("", "a"+s, nil))
		isNot(t, el(s, "a", nil))
		isNot(t, el("u"+s, "a", nil))
	}
	isNot(t, el(xmls, "a", nil))
	isNot(t, el(xmlnss, "a", nil))
	isNot(t, el(xmlnss, "xmlns", nil))
	for _, data := range []string{"x", " ", "\n", "-", "\x00", "\xff"} {
		isNot(t, api.Node{Name: "a", Data: data})
		isNot(t, api.Node{Space: "u", Name: "a", Kids: []api.Node{text("x")}, Data: data})
	}
	for _, space := range []string{xmls, xmlnss, "\x00"} { // that of the element about it, too
		isNot(t, el(space, "a", nil, el(space, "b", nil)))
		isNot(t, el(space, "a", nil, el("u", "b", nil)))
	}
}

func TestAttributesThatMayNotBe(t *testing.T) { // J1
	bad := [][]api.Attr{
		attrs("", "xmlns", ""), attrs("", "xmlns", "u"), attrs("", "xmlns", xmlnss),
		attrs(xmlnss, "b", "1"), attrs(xmlnss, "xmlns", xmlnss), attrs(xmlnss, "p", "u"),
		attrs("", "b", "1", "", "b", "2"), attrs("", "b", "1", "", "b", "1"), attrs("u", "b", "1", "u", "b", "2"), attrs(xmls, "b", "", xmls, "b", ""),
		attrs("", "b", "", "", "c", "", "", "b", ""), attrs("u", "b", "", "", "b", "", "v", "b", "", "u", "b", ""),
		append(listed(23, "", "1"), attrs("", "b0", "")...), append(listed(23, "u", "1"), attrs("u", "b22", "")...),
	}
	for _, name := range []string{"", "p:b", "xmlns:p", "xml:b", ":", ":b", "b:", "1", "-b", "b c", " b", "b ", "b=", "b\"", "×"} {
		bad = append(bad, attrs("", name, ""), attrs("u", name, ""), attrs(xmls, name, ""))
	}
	for _, s := range notTexts() {
		bad = append(bad, attrs("", "b", s), attrs("u", "b", "x"+s), attrs("", s, ""), attrs("", "b"+s, ""), attrs("u", "b"+s, ""), attrs(s, "b", ""), attrs("u"+s, "b", "1"))
	}
	for _, l := range bad {
		isNot(t, el("", "a", l))
		isNot(t, el("u", "a", l, text("x")))
		if len(l) < 23 {
			isNot(t, el("", "a", append(attrs("", "ahead", "1"), l...)))
			isNot(t, el("", "a", append(l[:len(l):len(l)], attrs("", "behind", "1")...)))
		}
	}
}

func TestKidsThatMayNotBe(t *testing.T) { // J1
	isNot(t, text(""))
	for _, s := range notTexts() {
		isNot(t, text(s))
		isNot(t, text("x"+s))
		isNot(t, comment(s))
		isNot(t, instr("p", s))
	}
	for _, l := range [][]api.Node{
		{text("x"), text("y")}, {text("x"), text("x")}, {text(" "), text("\n")}, {el("", "b", nil), text("x"), text("y")}, {text("x"), text("y"), el("", "b", nil)},
		{text("x"), comment("c"), text("y"), text("z")}, {text("x"), text("y"), text("z")}, {text("x"), text("")}, {text(""), text("x")},
	} {
		isNot(t, el("", "a", nil, l...))
		isNot(t, el("u", "a", attrs("", "b", "1"), l...))
	}
	for _, n := range []api.Node{text("x"), comment("c"), comment(""), instr("p", "q"), instr("p", "")} { // all else of them is empty
		for _, s := range []string{"u", " ", xmls, "\x00"} {
			m := n
			m.Space = s
			isNot(t, m)
		}
		if n.Kind != api.Instr {
			for _, s := range []string{"p", "xml", "1", " ", "\x00"} {
				m := n
				m.Name = s
				isNot(t, m)
			}
		}
		m := n
		m.Attrs = attrs("", "b", "1")
		isNot(t, m)
		m.Attrs = attrs("", "", "")
		isNot(t, m)
		m = n
		m.Kids = []api.Node{text("x")}
		isNot(t, m)
		m.Kids = []api.Node{{}}
		isNot(t, m)
		m.Attrs, m.Kids = []api.Attr{}, []api.Node{} // and lists without elements are empty
		if s, e := scribe.Print(el("", "a", nil, m)); s != said(el("", "a", nil, n), "") || e != api.OK {
			t.Errorf("%s: %q, %d", shown(m), s, e)
		}
	}
}

func TestHowManyAttributes(t *testing.T) { // J1
	for _, space := range []string{"", "u", xmls} {
		for n := range 61 {
			x := el("", "a", listed(n, space, "1"))
			if n <= 24 {
				is(t, x, said(x, ""))
				is(t, el("w", "b", nil, x), said(el("w", "b", nil, x), ""))
			} else {
				isNot(t, x)
			}
		}
	}
	refuses(t, el("", "a", listed(1000000, "u", "1")), api.ErrForm)
}

func TestHowDeep(t *testing.T) { // J1: an element stands in less than 30 others; what is no element may stand in 30
	for _, kids := range [][]api.Node{nil, {text("x")}, {comment("c")}, {instr("p", "q")}, {text("x"), comment(""), instr("p", "")}} {
		for n := 1; n < 40; n++ {
			x := nested(n, kids...)
			if n <= 30 {
				is(t, x, said(x, ""))
			} else {
				refuses(t, x, api.ErrForm)
			}
			y := el("u", "b", nil, text("y"), el("v", "c", nil), x)
			if n < 30 {
				is(t, y, said(y, ""))
			} else {
				refuses(t, y, api.ErrForm)
			}
		}
	}
	refuses(t, nested(1000000), api.ErrForm)
}
