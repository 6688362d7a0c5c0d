package scribe_test

import (
	"slices"
	"strings"
	"testing"

	"broadsheet/api"
	"broadsheet/grove"
)

// padded are trees whose texts are as much longer as more is, and told as it is.
func padded() map[string]func(more string) api.Node {
	return map[string]func(string) api.Node{
		"a text":               func(more string) api.Node { return el("", "a", nil, text("x"+more)) },
		"a text of references": func(more string) api.Node { return el("", "a", nil, text(strings.Repeat("&", 15000)+more)) },
		"a value":              func(more string) api.Node { return el("", "a", attrs("", "b", more)) },
		"a value of references": func(more string) api.Node {
			return el("", "a", attrs("", "b", strings.Repeat("\"", 8000)+strings.Repeat("\n", 8000)+more))
		},
		"values": func(more string) api.Node {
			return el("", "a", append(listed(23, "u", strings.Repeat("x", 4000)), attrs("", "c", more)...))
		},
		"a space":                 func(more string) api.Node { return el("u"+more, "a", nil) },
		"a space, once":           func(more string) api.Node { return el("u"+more, "a", nil, el("u"+more, "b", nil)) },
		"an attribute's space":    func(more string) api.Node { return el("", "a", attrs("u"+more, "b", "1")) },
		"a name":                  func(more string) api.Node { return el("", "a"+more, nil) },
		"an attribute's name":     func(more string) api.Node { return el("", "a", attrs("u", "b"+more, "1")) },
		"a comment":               func(more string) api.Node { return el("", "a", nil, comment(more)) },
		"an instruction":          func(more string) api.Node { return el("", "a", nil, instr("p", "q"+more)) },
		"an instruction's name":   func(more string) api.Node { return el("", "a", nil, instr("p"+more, "")) },
		"a text behind many kids": func(more string) api.Node { return el("", "a", nil, append(many(20000), text("x"+more))...) },
		"a text ahead of many kids": func(more string) api.Node {
			return el("", "a", nil, append([]api.Node{text("x" + more)}, many(20000)...)...)
		},
		"a text deep in":           func(more string) api.Node { return nested(30, text("x"+more)) },
		"a name with others in it": func(more string) api.Node { return el("", "a", nil, el("", "b"+more, nil), el("", "c", nil)) },
	}
}

// many is that many elements without anything.
func many(n int) []api.Node { return slices.Repeat([]api.Node{el("", "b", nil)}, n) }

func TestHowLong(t *testing.T) { // J1: more than 100000 bytes are too many
	for name, f := range padded() {
		pad := 100000 - len(said(f(""), ""))
		for _, n := range []int{99998, 99999, 100000, 100001, 100002, 100100, 200000, 1000000} {
			x := f(strings.Repeat("x", pad+n-100000))
			if n > 100000 {
				refuses(t, x, api.ErrLong)
				continue
			}
			if s := said(x, ""); len(s) != n {
				t.Fatalf("%s: %d bytes, not %d", name, len(s), n)
			}
			is(t, x, said(x, ""))
		}
	}
	for c, n := range map[string]int{"x": 1, "é": 2, "😀": 4, "<": 4, "&": 5, "\r": 5, "\n": 1, "\t": 1, "\"": 1} { // each reference is counted as it is told
		x := func(n int) api.Node { return el("", "a", nil, text(strings.Repeat(c, n))) }
		is(t, x(99993/n), said(x(99993/n), ""))
		refuses(t, x(99993/n+1), api.ErrLong)
	}
	for c, n := range map[string]int{"x": 1, "é": 2, "😀": 4, ">": 4, "&": 5, "\r": 5, "\n": 5, "\t": 5, "\"": 6} {
		x := func(n int) api.Node { return el("", "a", attrs("", "b", strings.Repeat(c, n))) }
		is(t, x(99991/n), said(x(99991/n), ""))
		refuses(t, x(99991/n+1), api.ErrLong)
	}
	refuses(t, el("", "a", nil, many(1000000)...), api.ErrLong)
	refuses(t, el("", "a", nil, text(strings.Repeat("<", 10000000))), api.ErrLong)
}

func TestFormFirst(t *testing.T) { // J1: ErrForm ahead of ErrLong, wherever it stands
	long := strings.Repeat("x", 100001)
	for _, bad := range []api.Node{text(""), comment("-"), instr("xml", ""), {Kind: 4}, el("", "", nil), el(xmls, "a", nil), el("", "a", attrs("", "xmlns", "")), el("", "a", listed(25, "", "")), nested(30), {Name: "a", Data: long}, text(long + "\x00"), comment(long + "-"), instr("p", long+"?>")} {
		for _, x := range []api.Node{el("", "a", nil, text(long), bad), el("", "a", nil, comment(long), bad), el("", "a", nil, bad, comment(long)), el(long, "a", nil, el("", "b", nil), bad), el("", "a", attrs("", "b", long), bad), el("", "a", nil, append(many(100000), bad)...), el("", "a", nil, el("", "b", nil, text(long)), el("", "b", nil, bad))} {
			refuses(t, x, api.ErrForm)
		}
	}
	refuses(t, text(long), api.ErrForm)
	refuses(t, el("", "a", attrs("", "b", long, "", "b", "")), api.ErrForm)
	refuses(t, el("", "a", attrs("", "b", long, "u", "c", "\xff")), api.ErrForm)
	refuses(t, el("", "a", nil, text(long), text("x")), api.ErrForm)
}

func TestTreesThatHaveThemselves(t *testing.T) { // R1: each call ends
	one := []api.Node{el("", "a", nil)}
	one[0].Kids = one
	refuses(t, one[0], api.ErrForm)
	some := []api.Node{text("x"), el("", "a", nil), comment("c"), el("", "b", nil)}
	some[1].Kids, some[3].Kids = some, some
	refuses(t, some[1], api.ErrForm)
	refuses(t, el("", "c", nil, some...), api.ErrForm)
	for _, leaf := range []api.Node{text("x"), comment("c"), instr("p", "q")} {
		self := []api.Node{leaf}
		self[0].Kids = self
		isNot(t, self[0])
	}
}

func TestTreesOfSharedParts(t *testing.T) { // R6: what is shared counts each time, as long as it is within the bound
	x := el("", "a", nil, text("x"))
	for n := range 21 {
		if n < 13 {
			is(t, x, said(x, ""))
		} else {
			refuses(t, x, api.ErrLong)
		}
		refuses(t, el("", "a", nil, x, text("")), api.ErrForm)
		x = el("", "a", nil, x, x)
	}
	y := el("", "a", nil, comment(strings.Repeat("x", 100000)))
	for range 12 {
		y = el("", "a", nil, y, y)
	}
	refuses(t, y, api.ErrLong)
}

// watched is a tree with room behind its lists, in which something stands.
func watched() (n api.Node, a []api.Attr, k []api.Node) {
	a = append(make([]api.Attr, 0, 5), attrs("", "b", "1", "u", "c", "\n", "-", "-", "-", "-", "-", "-")...)
	k = append(make([]api.Node, 0, 6), text("x\r"), el("v", "d", a[:2]), instr("p", "q"), comment("c"), text("-"), text("-"))
	return el("u", "a", a[:2], k[:4]...), a, k
}

func TestNothingIsWrittenInto(t *testing.T) { // R3, R4
	n, a, k := watched()
	was, wasA, wasK := copied(n), slices.Clone(a), copied(el("", "", nil, k...)).Kids
	want, e := printed(n)
	if e != api.OK {
		t.Fatal(e)
	}
	for range 3 {
		is(t, n, want)
		refuses(t, el("", "a", nil, n, text("")), api.ErrForm)
		refuses(t, el("", "a", nil, n, comment(strings.Repeat("x", 100000))), api.ErrLong)
	}
	if !same(n, was) || !slices.Equal(a, wasA) || !slices.EqualFunc(k, wasK, same) {
		t.Errorf("%s, %v, %v", shown(n), a, k)
	}
}

// documents calls f with documents, good and bad ones, that are put together of pieces.
func documents(f func(string)) {
	texts("<a>", "</a>", []string{"<b>", "</b>", "<b/>", "x", "&lt;", "&#13;", "<![CDATA[]]>", "<![CDATA[]]&]]>", "<!--c-->", "<!---->", "<?p?>", "<?p  q ?>", "\r\n"}, 4, f)
	texts("<a xmlns='u' xmlns:p='v'>", "</a>", []string{"<b>", "</b>", "<p:b>", "</p:b>", "<b xmlns='v'>", "<b xmlns=''/>", "<p:b xmlns:p='u'>", "<b xmlns:q='v' q:c='1'>", "<b p:c='2' c='3'/>", "<xml:b/>", "<b xml:c='&#9;\t'/>", "x"}, 4, f)
	texts("<a", "/>", []string{" xmlns='u'", " xmlns:p='u'", " xmlns:q='v'", " xmlns:n0='w'", " b='&amp;\"'", " p:b='\n&#10;'", " q:b=''", " n0:b='4'", " xml:b='5'", " n0='6'", " q:xmlns='7'"}, 5, f)
	texts(strings.Repeat("<a>", 28), strings.Repeat("</a>", 28), []string{"<a>", "</a>", "<b xmlns='u'/>", "x", "<!--c-->", "<?p?>"}, 5, f)
}

// texts calls f with every text of up to n of the pieces, one behind the other, and with what stands about it.
func texts(ahead, behind string, pieces []string, n int, f func(string)) {
	f(ahead + behind)
	if n == 0 {
		return
	}
	for _, x := range pieces {
		texts(ahead+x, behind, pieces, n-1, f)
	}
}

func TestWhatIsParsed(t *testing.T) { // J2: and may be told, is told, and parsed again, as it was
	told, not := 0, 0
	documents(func(s string) {
		n, e := grove.Parse(s)
		if e != api.OK {
			return
		}
		once, e := agrees(t, n)
		if e != api.OK {
			not++
			return
		}
		told++
		comesBack(t, n, once)
	})
	if told < 10000 || not < 100 {
		t.Errorf("%d were told, %d not", told, not)
	}
}

func TestTheSameTreeIsToldAlike(t *testing.T) { // J1: whatever it was parsed from
	for _, l := range [][]string{
		{`<a xmlns="u"/>`, "<a xmlns='u'/>", "<p:a xmlns:p='u'></p:a>", "<?xml version='1.0'?><!--c--><p:a xmlns='v' xmlns:p='u'/>\n"},
		{`<a xmlns="u"><b/></a>`, "<p:a xmlns:p='u'><q:b xmlns:q='u'/></p:a>", "<a xmlns='u'><b xmlns='u'></b></a>"},
		{`<a><b xmlns:n0="u" n0:c="1"/></a>`, "<a xmlns:p='u'><b p:c='1'/></a>", "<a xmlns:n0='v'><b n1:c='&#49;' xmlns:n1='u'/></a>"},
		{`<a xmlns="u"><b xmlns=""/></a>`, "<p:a xmlns:p='u'><b/></p:a>"},
		{`<a b="&quot;&#xA; ">x&lt;y</a>`, "<a b='\"&#10;\n'>x<![CDATA[<]]>y</a>", "<a  b = '&#34;&#xa;\t' >&#120;&lt;y</a >"},
		{"<a>\n&#xD;\n</a>", "<a>\r\n&#13;\r</a>"},
		{"<a><?p q ?><?p?></a>", "<a><?p \n\tq ?><?p ?></a>"},
	} {
		for _, s := range l {
			n, e := grove.Parse(s)
			if e != api.OK {
				t.Fatalf("%q: %d", s, e)
			}
			is(t, n, l[0])
		}
	}
}
