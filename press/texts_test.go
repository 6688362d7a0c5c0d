package press_test

import (
	"slices"
	"strings"
	"testing"

	"broadsheet/api"
	"broadsheet/press"
)

// holdsTexts fails unless kids become those, in an entry that is pressed, with what it must have about them, and stripped alone.
func holdsTexts(t *testing.T, l, want []api.Node) {
	t.Helper()
	must := kids(t, base)
	becomesOf(t, slices.Concat(must, l), slices.Concat(must, want, kids(t, set)))
	becomesOf(t, slices.Concat(l, must), slices.Concat(want, must, kids(t, set)))
	becomesOf(t, slices.Concat(must[:1], l, must[1:]), slices.Concat(must[:1], want, must[1:], kids(t, set)))
	strips(t, entry(l...), entry(want...))
	for kind := -1; kind < 5; kind++ {
		strips(t, api.Node{Kind: kind, Space: another, Name: "a", Data: "d", Kids: l}, api.Node{Kind: kind, Space: another, Name: "a", Data: "d", Kids: want})
	}
}

func TestTextsSideBySide(t *testing.T) { // P1, P2: two and many, from the beginning, and when what stood between is gone
	x, y, z, none := text("x"), text("y"), text("z"), text("")
	id, edited, edit, media := el(atoms, "id", text("urn:old")), el(apps, "edited"), link("rel", "edit", "href", "a"), link("href", "a", "rel", "edit-media")
	b, c, p, other := el(atoms, "b"), comment("c"), instr("p", "q"), link("rel", "self", "href", "a")
	for _, k := range []struct{ l, want []api.Node }{
		{[]api.Node{x}, []api.Node{x}},
		{[]api.Node{x, y}, []api.Node{text("xy")}},
		{[]api.Node{y, x}, []api.Node{text("yx")}},
		{[]api.Node{x, y, z, x}, []api.Node{text("xyzx")}},
		{[]api.Node{x, x}, []api.Node{text("xx")}},
		{[]api.Node{none}, []api.Node{none}},
		{[]api.Node{none, none}, []api.Node{none}},
		{[]api.Node{none, none, none}, []api.Node{none}},
		{[]api.Node{none, x, none}, []api.Node{x}},
		{[]api.Node{x, none}, []api.Node{x}},
		{[]api.Node{x, none, y}, []api.Node{text("xy")}},
		{[]api.Node{none, b, none}, []api.Node{none, b, none}},
		{[]api.Node{none, id, none}, []api.Node{none}},
		{[]api.Node{x, id, y}, []api.Node{text("xy")}},
		{[]api.Node{x, edited, y, edit, z}, []api.Node{text("xyz")}},
		{[]api.Node{x, edited, edit, media, edited, y}, []api.Node{text("xy")}},
		{[]api.Node{id, x, y, edit}, []api.Node{text("xy")}},
		{[]api.Node{edited, x, edit}, []api.Node{x}},
		{[]api.Node{x, id, b, edit, y}, []api.Node{x, b, y}},
		{[]api.Node{x, b, y, id, z}, []api.Node{x, b, text("yz")}},
		{[]api.Node{x, id, y, b, z}, []api.Node{text("xy"), b, z}},
		{[]api.Node{x, c, y}, []api.Node{x, c, y}},
		{[]api.Node{x, p, y}, []api.Node{x, p, y}},
		{[]api.Node{x, other, y}, []api.Node{x, other, y}},
		{[]api.Node{x, {Kind: 4, Data: "k"}, y}, []api.Node{x, {Kind: 4, Data: "k"}, y}},
		{[]api.Node{c, c, p, p, b, b}, []api.Node{c, c, p, p, b, b}},
		{[]api.Node{x, c, id, y, p, edit, z}, []api.Node{x, c, y, p, z}},
		{[]api.Node{x, id, c, y, edit, p, z}, []api.Node{x, c, y, p, z}},
		{[]api.Node{x, y, c, z, x, p, y, z, b, x, id, y}, []api.Node{text("xy"), c, text("zx"), p, text("yz"), b, text("xy")}},
		{[]api.Node{x, y, b, z}, []api.Node{text("xy"), b, z}},
		{[]api.Node{x, b, y, z}, []api.Node{x, b, text("yz")}},
		{[]api.Node{text("\xff"), text("\x00")}, []api.Node{text("\xff\x00")}},
		{[]api.Node{text("\xc3"), text("\xa9")}, []api.Node{text("é")}},
		{[]api.Node{text("\r"), text("\n")}, []api.Node{text("\r\n")}},
	} {
		holdsTexts(t, k.l, k.want)
	}
}

func TestOneTextHasNothingElse(t *testing.T) { // P1, P2: but Data; a text that stands alone is left as it is
	odd := api.Node{Kind: 1, Space: atoms, Name: "id", Data: "x", Attrs: []api.Attr{{Name: "rel", Value: "edit"}}, Kids: []api.Node{text("k")}}
	id, b := el(atoms, "id", text("urn:old")), el(another, "b")
	for _, k := range []struct{ l, want []api.Node }{
		{[]api.Node{odd}, []api.Node{odd}},
		{[]api.Node{odd, odd}, []api.Node{text("xx")}},
		{[]api.Node{odd, text("y")}, []api.Node{text("xy")}},
		{[]api.Node{text(""), odd}, []api.Node{text("x")}},
		{[]api.Node{odd, id, odd, text("z")}, []api.Node{text("xxz")}},
		{[]api.Node{odd, b, odd}, []api.Node{odd, b, odd}},
		{[]api.Node{id, odd, b, odd, odd}, []api.Node{odd, b, text("xx")}},
	} {
		holdsTexts(t, k.l, k.want)
	}
}

func TestWhatStandsDeeper(t *testing.T) { // P1, P2: a kid's kids are left as they are
	deep := el(another, "b", text("x"), text("y"), el(atoms, "id"), text("z"), el(apps, "edited"), link("rel", "edit"), text(""))
	title := el(atoms, "title", text("x"), text(""), text("y"), comment("c"))
	holdsTexts(t, []api.Node{deep}, []api.Node{deep})
	holdsTexts(t, []api.Node{deep, text("x"), el(apps, "edited", text("u"), text("v")), text("y"), deep}, []api.Node{deep, text("xy"), deep})
	author := kids(t, base)[0]
	becomesOf(t, []api.Node{title, el(atoms, "id", text("urn:"), text("old")), author}, slices.Concat([]api.Node{title, author}, kids(t, set)))
}

func TestPiecesOfEntries(t *testing.T) { // P1, P2: texts and others, in each order
	pieces := []api.Node{text("x"), text(""), el(apps, "edited"), link("rel", "edit", "href", "a"), comment("c"), instr("p", ""), el(atoms, "updated", text("2005-07-31T12:29:29Z")), kids(t, base)[0]}
	title := kids(t, base)[1]
	all := [][]api.Node{nil}
	good := 0
	for range 5 {
		var longer [][]api.Node
		for _, l := range all {
			for _, x := range pieces {
				l := append(slices.Clone(l), x)
				longer = append(longer, l)
				n := entry(append(slices.Clone(l), title)...)
				if _, e := agrees(t, n, "urn:x", "/e", 5); e == api.OK {
					good++
				}
				strips(t, n, stripped(n))
			}
		}
		all = longer
	}
	if good < 5000 {
		t.Errorf("no more than %d are entries", good)
	}
}

func TestManyTexts(t *testing.T) { // R1: it ends
	const count = 200000
	l := kids(t, base)
	for range count {
		l = append(l, text("xy"), el(apps, "edited"))
	}
	becomesOfMany(t, l, append(kids(t, base), text(strings.Repeat("xy", count))))
	for i := range l {
		if l[i].Name == "edited" {
			l[i] = comment("c")
		}
	}
	becomesOfMany(t, l, l)
}

// becomesOfMany is becomesOf for what is too much for the model.
func becomesOfMany(t *testing.T, l, want []api.Node) {
	t.Helper()
	if got := press.Strip(entry(l...)); !same(got, entry(want...)) {
		t.Errorf("Strip: %d kids", len(got.Kids))
	}
	if got, e := press.Press(entry(l...), "urn:x", "/e", 5); !same(got, entry(slices.Concat(want, kids(t, set))...)) || e != api.OK {
		t.Errorf("Press: %d kids, %d", len(got.Kids), e)
	}
}
