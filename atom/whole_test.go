package atom_test

import (
	"slices"
	"testing"

	"broadsheet/api"
	"broadsheet/atom"
)

// strangers are nodes that change nothing where they stand among an entry's kids.
func strangers(t *testing.T) []api.Node {
	t.Helper()
	l := kids(t, "<o:author/><!--c--><x:title type='y'><title/></x:title><?title t?><o:id>x</o:id>x<o:b xmlns='urn:other'><author/></o:b> ")
	return append(l, text(""), text("<title/>"), comment("\xff"), api.Node{Name: "title"}, api.Node{Kind: 1, Space: atoms, Name: "title", Data: "t"}, api.Node{Kind: 7, Space: atoms, Name: "id"})
}

// entries are kids of many entries, and of what is none.
func entries(t *testing.T) [][]api.Node {
	t.Helper()
	l := [][]api.Node{nil}
	for _, s := range []string{
		"", base, base + idAndUpdated, idAndUpdated, base + "<id>a</id>", base + "<updated/>", base + base, "<author/><title/>", "<title/>", "<author><name>A</name></author>",
		idAndUpdated + base + "<link href='a'/><link href='b' hreflang='en'/><content type='xhtml'><x:div/></content>",
		base + "<link href='a'/><link href='a' type='a/b'/><link href='b'/>", base + "<link href='a'/><link href='b' rel='self'/>",
		"<id>urn:b</id>" + base + "<summary type='html'>&lt;b></summary><rights/><published>2005-07-31T12:29:29Z</published>", base + "<summary/><summary/>", base + "<category term='a'/><category/>",
		base + "<contributor><name/></contributor>", base + "<contributor><name>B</name><email>a@b</email></contributor>" + idAndUpdated, base + "<content src='a'>x</content>", base + "<content src='a' type='image/png'/>",
	} {
		l = append(l, kids(t, s))
	}
	ahead, behind := kids(t, base), kids(t, idAndUpdated)
	for _, x := range pool(t) {
		l = append(l, append(slices.Clone(ahead), x))
		for _, y := range pool(t) {
			l = append(l, slices.Concat(ahead, []api.Node{x}, behind, []api.Node{y}))
		}
	}
	return l
}

func TestWhatChangesNothing(t *testing.T) { // O3: kids of other spaces, comments and texts, wherever they are put
	good, bad := 0, 0
	for _, l := range entries(t) {
		for _, stored := range []bool{false, true} {
			want := atom.Check(entry(l...), stored)
			if want == api.OK {
				good++
			} else {
				bad++
			}
			all := l
			for _, x := range strangers(t) {
				for at := range len(l) + 1 {
					asked(t, slices.Insert(slices.Clone(l), at, x), stored, want)
				}
				all = slices.Insert(slices.Clone(all), len(all)/2, x)
				asked(t, all, stored, want)
			}
		}
	}
	if good < 500 || bad < 500 {
		t.Errorf("%d are entries, %d are none", good, bad)
	}
}

// asked fails unless Check answers that of an element entry with those kids.
func asked(t *testing.T, l []api.Node, stored bool, want api.Errno) {
	t.Helper()
	if got := atom.Check(entry(l...), stored); got != want {
		t.Fatalf("Check %s, %t: %d, not %d", shown(entry(l...)), stored, got, want)
	}
}

func TestOrderOfKids(t *testing.T) { // O3: it changes nothing
	for _, l := range entries(t) {
		for _, stored := range []bool{false, true} {
			want := atom.Check(entry(l...), stored)
			count := 0
			orders(slices.Clone(l), 0, func(x []api.Node) bool {
				asked(t, x, stored, want)
				count++
				return count < 120 // all orders of five, and of more those of the last five
			})
			back := slices.Clone(l)
			slices.Reverse(back)
			asked(t, back, stored, want)
			for i := range l {
				asked(t, append(slices.Clone(l[i:]), l[:i]...), stored, want)
			}
		}
	}
}

// orders calls f with l in each order, as long as f answers true.
func orders(l []api.Node, at int, f func([]api.Node) bool) bool {
	if at == len(l) {
		return f(l)
	}
	for i := at; i < len(l); i++ {
		l[at], l[i] = l[i], l[at]
		if !orders(l, at+1, f) {
			return false
		}
		l[at], l[i] = l[i], l[at]
	}
	return true
}

func TestOrderOfAPersonsKids(t *testing.T) { // O3: so it is with a person's
	for _, s := range people().good {
		turned(t, s, api.OK)
	}
	for _, s := range people().bad {
		turned(t, s, api.ErrEntry)
	}
}

// turned fails unless an entry with a person that has those kids, in whatever order, is answered so.
func turned(t *testing.T, s string, want api.Errno) {
	t.Helper()
	l, count := kids(t, s), 0
	orders(l, 0, func(x []api.Node) bool {
		asked(t, append(kids(t, "<title/>"), api.Node{Space: atoms, Name: "author", Kids: slices.Clone(x)}), false, want)
		count++
		return count < 200
	})
}

func TestWhatMayBeStoredIsAnEntry(t *testing.T) { // O3
	count := 0
	for _, l := range entries(t) {
		if atom.Check(entry(l...), true) == api.OK {
			asked(t, l, false, api.OK)
			count++
		}
	}
	if count < 300 {
		t.Errorf("no more than %d may be stored", count)
	}
}

func TestTreesThatHaveThemselves(t *testing.T) { // R1: each call ends
	for _, s := range []string{base + idAndUpdated, base + "<summary/>", base + "<content type='a/b'/>", base + "<contributor/>", base + "<id/>", base + "<o:b/>"} {
		l := kids(t, s)
		for i := range l {
			l := slices.Clone(l)
			l[i].Kids = l
			atom.Text(l[i])
			for _, stored := range []bool{false, true} {
				atom.Check(entry(l...), stored)
				atom.Check(l[i], stored)
			}
		}
	}
	self := []api.Node{entry(kids(t, base+idAndUpdated)...)}
	self[0].Kids = append(self[0].Kids, self[0])
	self[0].Kids[len(self[0].Kids)-1].Kids = self
	asked(t, self[0].Kids, true, api.OK)
}

func TestManyKids(t *testing.T) { // R1: it ends
	n := put(t, "")
	for range 20000 {
		n.Kids = append(n.Kids, kids(t, "<author><name>A</name></author><category term='a'/><o:title/>x<link href='a' rel='b'/>")...)
	}
	holdsAlone(t, n, true)
	holdsAlone(t, with(n, kid(t, "<title/>")), false)
	holdsAlone(t, with(n, kid(t, "<author/>")), false)
	deep := el("b", "x")
	for range 100000 {
		deep = entry(deep)
	}
	holdsAlone(t, with(n, deep), true)
	holdsAlone(t, deep, false)
}

// watched is an entry with room behind its lists, in which something stands.
func watched(t *testing.T) (n api.Node, l []api.Node) {
	t.Helper()
	l = kids(t, base+idAndUpdated+"<link href='a' hreflang='EN' type='A/B'/><content type='xhtml'> <x:div/></content><title>z</title><id/>")
	for i := range l {
		l[i].Attrs = append(l[i].Attrs, api.Attr{Name: "-"}, api.Attr{Name: "-"})[:len(l[i].Attrs)]
		l[i].Kids = append(l[i].Kids, text("-"), text("-"))[:len(l[i].Kids)]
	}
	return entry(l[:len(l)-2]...), l
}

func TestNothingIsWrittenInto(t *testing.T) { // R3, R4
	n, l := watched(t)
	was, wasL := watched(t)
	for range 3 {
		holds(t, n, true, true)
		holds(t, entry(l...), false, false)
		tells(t, n, "")
	}
	if shown(n) != shown(was) || shown(entry(l...)) != shown(entry(wasL...)) {
		t.Errorf("%s, %s", shown(n), shown(entry(l...)))
	}
	for i := range l {
		a, k := l[i].Attrs, l[i].Kids
		if a := a[len(a) : len(a)+2]; a[0].Name != "-" || a[1].Name != "-" {
			t.Errorf("behind attributes: %v", a)
		}
		if k := k[len(k) : len(k)+2]; k[0].Data != "-" || k[1].Data != "-" {
			t.Errorf("behind kids: %v", k)
		}
	}
}
