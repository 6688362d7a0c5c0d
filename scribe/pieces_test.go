package scribe_test

import (
	"strings"
	"testing"

	"broadsheet/api"
)

// nodes calls f with nodes of every kind, with all that their fields may be, and may not.
func nodes(f func(api.Node)) {
	for kind := -1; kind < 5; kind++ {
		for _, space := range []string{"", "u", xmls, xmlnss, "\x00"} {
			for _, name := range []string{"", "a", "a:b", "xml", "XmL", "xmlns", "1", "a\xff"} {
				for _, data := range []string{"", "x", "<", "\r", "-", "--", "x-", "-x", " x", "x ", "?>", ">", "?", "\uFFFE"} {
					for _, l := range lists() {
						for _, kids := range kidLists() {
							f(api.Node{Kind: kind, Space: space, Name: name, Attrs: l, Kids: kids, Data: data})
						}
					}
				}
			}
		}
	}
}

func lists() [][]api.Attr {
	return [][]api.Attr{nil, {}, attrs("", "b", "1"), attrs("", "xmlns", ""), attrs("u", "b", "\n", "", "b", ""), attrs("", "b", "", "", "b", "1"), attrs(xmlnss, "b", "")}
}

func kidLists() [][]api.Node {
	return [][]api.Node{nil, {}, {text("x")}, {text("x"), text("y")}, {text("")}, {el("", "b", nil), comment("c"), instr("p", "")}, {{}}, {comment("-")}}
}

// told is what trees were told as, so far.
type told map[string]api.Node

// hold fails unless Print answers what the chapter's words ask, and, if it is told, unless it is parsed as it was: alone,
// with comments about it, and in another element; and read so by Go's own library; and unless unlike trees are told unlike.
func (l told) hold(t *testing.T, n api.Node) {
	t.Helper()
	s, e := agrees(t, n)
	if e != api.OK {
		return
	}
	comesBack(t, n, s)
	comesBack(t, n, "<?xml version='1.0'?>\n<!--c-->"+s+"<!--<a>--> <?p?>")
	comesBack(t, el("", "w", nil, n), "<w>"+s+"</w>")
	comesBack(t, el("", "w", attrs("", "b", "1"), text("x"), n, n), "<w b='1'>x"+s+s+"</w>")
	if m, err := read(s); !strings.Contains(s, "<xmlns") && (!same(m, n) || err != nil) { // to that name Go's own library gives no space
		t.Fatalf("%s is told as %.500q, but read as %s, %v", shown(n), s, shown(m), err)
	}
	if m, is := l[s]; is && !same(m, n) {
		t.Fatalf("%s and %s are both told as %.500q", shown(n), shown(m), s)
	}
	l[s] = n
}

func TestNodes(t *testing.T) { // J1, J2
	all := told{}
	nodes(func(n api.Node) {
		all.hold(t, n)
		all.hold(t, el("u", "a", nil, n))
	})
	if len(all) < 100 {
		t.Errorf("no more than %d were told", len(all))
	}
}

func TestListsOfAttributes(t *testing.T) { // J1, J2
	var l []api.Attr
	for _, space := range []string{"", "u", "v", xmls, xmlnss, "\x1f"} {
		for _, name := range []string{"b", "c", "xmlns", "n1", "p:b"} {
			l = append(l, api.Attr{Space: space, Name: name, Value: "1"}, api.Attr{Space: space, Name: name, Value: "\"\n&"})
		}
	}
	all := told{}
	for _, x := range l {
		all.hold(t, el("", "a", []api.Attr{x}))
		for _, y := range l {
			all.hold(t, el("u", "a", []api.Attr{x, y}))
			all.hold(t, el("u", "a", []api.Attr{x}, el("u", "b", []api.Attr{y})))
			for _, z := range l[:28] {
				answersAndComesBack(t, el("", "a", []api.Attr{x, y, z}))
			}
		}
	}
	if len(all) < 1000 {
		t.Errorf("no more than %d were told", len(all))
	}
}

// answersAndComesBack asks less than hold, of many trees.
func answersAndComesBack(t *testing.T, n api.Node) {
	t.Helper()
	if s, e := agrees(t, n); e == api.OK {
		comesBack(t, n, s)
	}
}

// leaves are kids, good ones and a few that may not be told.
func leaves() []api.Node {
	return []api.Node{text("x"), text("\r\n<"), text(" "), text(""), comment(""), comment("-c"), comment("c-"), instr("p", ""), instr("p", "q "), instr("p", " q"), instr("XML", "q"),
		el("", "b", nil), el("u", "b", nil), el("v", "b", attrs("u", "c", "1")), el("u", "b", nil, text("x")), el("", "b", nil, text("x"), text("y"))}
}

func TestListsOfKids(t *testing.T) { // J1, J2
	all := told{}
	l := leaves()
	for _, x := range l {
		for _, y := range l {
			for _, space := range []string{"", "u"} {
				all.hold(t, el(space, "a", nil, x, y))
				all.hold(t, el(space, "a", nil, x, el("v", "c", nil, y)))
				all.hold(t, el("v", "c", nil, el(space, "a", nil, x), y))
				for _, z := range l {
					all.hold(t, el(space, "a", nil, x, y, z))
				}
			}
		}
	}
	if len(all) < 1000 {
		t.Errorf("no more than %d were told", len(all))
	}
}

// shapes are trees with a text at each of the places where there may be one.
func shapes(s string) []api.Node {
	return []api.Node{
		el(s, "a", nil), el("u"+s, "a", nil, el("u", "b", nil)), el("", s, nil), el("", "a"+s, nil),
		el("", "a", attrs(s, "b", "1")), el("", "a", attrs("", s, "1")), el("", "a", attrs("u", "b"+s, "1")), el("", "a", attrs("", "b", s)), el("", "a", attrs(xmls, "b", "x"+s+"y")),
		el("", "a", nil, text(s)), el("", "a", nil, text("x"+s+"y")), el("", "a", nil, text(s+s)),
		el("", "a", nil, comment(s)), el("", "a", nil, comment("x"+s+"y")), el("", "a", nil, comment(s+s)),
		el("", "a", nil, instr(s, "")), el("", "a", nil, instr("p"+s, "q")), el("", "a", nil, instr("p", s)), el("", "a", nil, instr("p", "x"+s+"y")), el("", "a", nil, instr("p", "x"+s)), el("", "a", nil, instr("p", s+">")), el("", "a", nil, instr("p", "?"+s)),
		{Name: "a", Data: s}, el("", "a", nil, api.Node{Kind: 1, Space: s, Data: "x"}), el("", "a", nil, api.Node{Kind: 2, Name: s}),
	}
}

func TestEachByte(t *testing.T) { // J1, J2: at each place, and each two of some
	for c := range 256 {
		for _, n := range shapes(string([]byte{byte(c)})) {
			answersAndComesBack(t, n)
		}
	}
	all := told{}
	const some = "\x00\t\n\r !\"&'->?<=;:[]Xx1_"
	for i := range some {
		for j := range some {
			for _, n := range shapes(some[i:i+1] + some[j:j+1]) {
				all.hold(t, n)
			}
		}
	}
}

func TestCodePoints(t *testing.T) { // J1, J2: at each place
	for c := rune(0x80); c < 0x110000; c += 1 + c>>9 {
		for _, n := range shapes(string(c)) {
			answersAndComesBack(t, n)
		}
	}
	for _, c := range []rune{0xB7, 0xBF, 0xC0, 0xD7, 0xF7, 0x2FF, 0x300, 0x36F, 0x370, 0x37D, 0x37E, 0x37F, 0x1FFF, 0x2000, 0x200B, 0x200C, 0x200D, 0x203F, 0x2040, 0x2070, 0x218F, 0x2190, 0x2C00, 0x2FEF, 0x3000, 0x3001, 0xD7FF, 0xE000, 0xF8FF, 0xF900, 0xFDCF, 0xFDD0, 0xFDF0, 0xFFFD, 0xFFFE, 0xFFFF, 0x10000, 0xEFFFF, 0xF0000, 0x10FFFF} {
		for _, n := range shapes(string(c)) {
			answersAndComesBack(t, n)
		}
	}
}

func TestTreesOfThree(t *testing.T) { // J1, J2: in one another, each with a space and attributes of its own
	all := told{}
	spaces := []string{"", "u", "v", "n0", "\t&"}
	for _, a := range spaces {
		for _, b := range spaces {
			for _, c := range spaces {
				for _, l := range lists() {
					all.hold(t, el(a, "a", l, el(b, "b", nil, el(c, "c", l)), el(c, "d", l)))
					all.hold(t, el(a, "a", attrs(b, "b", c), el(c, "b", attrs(a, "b", b), text("x")), el(b, "b", l)))
				}
			}
		}
	}
	if len(all) < 500 {
		t.Errorf("no more than %d were told", len(all))
	}
}
