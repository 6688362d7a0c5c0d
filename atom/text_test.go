package atom_test

import (
	"strings"
	"testing"

	"broadsheet/api"
	"broadsheet/atom"
)

// tells fails unless that is the Text of a node, and the model's.
func tells(t *testing.T, n api.Node, want string) {
	t.Helper()
	if got := joined(n); got != want {
		t.Fatalf("the model of %s: %q", shown(n), got)
	}
	if got := atom.Text(n); got != want {
		t.Fatalf("Text %s: %.200q, not %.200q", shown(n), got, want)
	}
}

func TestText(t *testing.T) { // O1: of no kids, of one text and of many, with other kids among them
	for s, want := range map[string]string{
		"<a/>": "", "<a></a>": "", "<a>x</a>": "x", "<a> x\ty\n</a>": " x\ty\n", "<a>x<![CDATA[<y>]]>&amp;z</a>": "x<y>&z",
		"<a><b/></a>": "", "<a><b>x</b></a>": "", "<a>x<b>y</b>z</a>": "xz", "<a><b>y</b>x</a>": "x", "<a>x<b>y</b></a>": "x", "<a><b>1</b>x<b>2</b><c>3<d>4</d></c>y<b/>z</a>": "xyz",
		"<a><!--c--></a>": "", "<a>x<!--c-->y</a>": "xy", "<a><!--c-->x<!--d--></a>": "x", "<a><?p?></a>": "", "<a><?p q?>x<?r s?>y</a>": "xy", "<a>1<!--c-->2<?p q?>3<b>4</b>5</a>": "1235",
		"<o:a>x<x:b>y</x:b>z</o:a>": "xz",
	} {
		tells(t, kid(t, s), want)
	}
}

func TestTextOfAnyNode(t *testing.T) { // O1: whatever it is itself, and whatever its texts are
	l := []api.Node{text("x"), el("b", "y"), comment("c"), instr("p", "q"), {Kind: 4, Data: "k"}, {Kind: -1, Data: "k"}, {Data: "d"}, {Kind: 1, Space: "u", Name: "n", Data: "z", Kids: []api.Node{text("w")}, Attrs: []api.Attr{{Name: "v"}}}}
	for kind := -1; kind < 5; kind++ {
		tells(t, api.Node{Kind: kind, Space: "u", Name: "a", Data: "e", Kids: l}, "xz")
		tells(t, api.Node{Kind: kind, Data: "e"}, "")
		tells(t, api.Node{Kind: kind, Data: "e", Kids: []api.Node{}}, "")
	}
	for _, s := range []string{"", " ", "\r\n\t ", "\x00", "\xff", "é\xc3", "\uFFFD", "<&>", strings.Repeat("x", 100000)} {
		tells(t, el("a", s), s)
		tells(t, with(el("a", s), el("b", s), text(s), comment(s), text("y"), text(s)), s+s+"y"+s)
	}
}

func TestTextOfEach(t *testing.T) { // O1: of a few kids, in each order
	l := []api.Node{text("x"), text("y"), text(""), text(" "), el("b", "z"), comment("c"), instr("p", "q"), {Kind: 4, Data: "k"}}
	all := []api.Node{{}}
	for range 4 {
		var longer []api.Node
		for _, n := range all {
			for _, x := range l {
				longer = append(longer, with(n, x))
				tells(t, with(n, x), joined(n)+joined(entry(x)))
			}
		}
		all = longer
	}
}

func TestTextOfMany(t *testing.T) { // O1: no number is too great
	const n = 200000
	l := make([]api.Node, 0, 2*n)
	for range n {
		l = append(l, text("xy"), el("b", "z"))
	}
	if got := atom.Text(entry(l...)); got != strings.Repeat("xy", n) {
		t.Errorf("%d bytes", len(got))
	}
}
