package press_test

import (
	"slices"
	"strings"
	"testing"

	"broadsheet/api"
)

// without fails unless a node with those kids, be it an entry or anything, is stripped to one with these.
func without(t *testing.T, l, want []api.Node) {
	t.Helper()
	strips(t, entry(l...), entry(want...))
	for _, n := range []api.Node{{}, {Kind: 1, Data: "x"}, {Kind: 2}, {Kind: 3, Name: "p"}, {Kind: 4}, {Kind: -1}, el(atoms, "id"), el(apps, "edited"), link("rel", "edit", "href", "a"), el(atoms, "feed"), {Space: "\xff", Name: "\x00", Data: "\xff"}} {
		stripped := n
		n.Kids, stripped.Kids = l, want
		strips(t, n, stripped)
	}
}

func TestStripOfWhatIsNoEntry(t *testing.T) { // P2
	for _, n := range noEntries(t) {
		strips(t, n, stripped(n))
	}
	without(t, nil, nil)
	without(t, []api.Node{}, nil)
	for _, s := range slices.Concat(others(), []string{"", "x", updatedThen, "<updated/>", "<author/>", base, base + base}) {
		without(t, kids(t, s), kids(t, s))
	}
	for _, rel := range rels() {
		without(t, kids(t, "<link "+rel+"/>"), kids(t, "<link "+rel+"/>"))
	}
	all := strings.Join(others(), "")
	without(t, kids(t, all+all), kids(t, all+all))
}

func TestStripOfTheServers(t *testing.T) { // P2: alone, many of them, with others and with texts about them
	l := slices.Concat(servers(), []string{"<id/>", "<id>a</id>", "<id><b/></id>", "<link rel='edit'/>", "<link rel='edit-media'/>", "<link rel='edit' href=''/>", "<link rel='edit-media' type='x'/>"})
	for _, s := range l {
		without(t, kids(t, s), nil)
		without(t, kids(t, s+s+s), nil)
		without(t, kids(t, "x"+s), kids(t, "x"))
		without(t, kids(t, s+"x"), kids(t, "x"))
		without(t, kids(t, "x"+s+"y"), kids(t, "xy"))
		without(t, kids(t, "<b/>"+s+"<!--c-->"+s+"<?p?>"), kids(t, "<b/><!--c--><?p?>"))
		for _, x := range l {
			without(t, kids(t, s+x), nil)
			without(t, kids(t, "x"+s+"y"+x+"z"), kids(t, "xyz"))
			without(t, kids(t, "<b/>"+s+x+"<b/>"), kids(t, "<b/><b/>"))
		}
		for _, x := range others() {
			without(t, kids(t, s+x+s), kids(t, x))
			without(t, kids(t, "x"+s+x+s+"y"), kids(t, "x"+x+"y"))
		}
	}
	without(t, kids(t, strings.Join(l, "")), nil)
	without(t, kids(t, strings.Join(l, " ")), []api.Node{text(strings.Repeat(" ", len(l)-1))})
}

func TestStripOfAnEntry(t *testing.T) { // P2: an updated is left, whoever told it
	strips(t, entry(kids(t, base+set)...), entry(kids(t, base+"<updated>1970-01-01T00:00:05Z</updated>")...))
	strips(t, entry(kids(t, updatedThen+base+setButUpdated)...), entry(kids(t, updatedThen+base)...))
	n := with(t)
	strips(t, n, n)
	n.Attrs, n.Data = []api.Attr{{Name: "rel", Value: "edit"}, {}}, "\xff"
	want := n
	n.Kids = slices.Concat(kids(t, set), n.Kids)
	want.Kids = slices.Concat(kids(t, "<updated>1970-01-01T00:00:05Z</updated>"), want.Kids)
	strips(t, n, want)
}
