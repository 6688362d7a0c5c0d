package atom_test

import (
	"maps"
	"slices"
	"strconv"
	"strings"
	"testing"

	"broadsheet/api"
	"broadsheet/atom"
)

func numeral(n int) string { return strconv.Itoa(n) + "x" }

// holdsAlone fails unless Check tells whether it is an entry that may be stored: for what is too much for the model.
func holdsAlone(t *testing.T, n api.Node, is bool) {
	t.Helper()
	for _, stored := range []bool{false, true} {
		if got := atom.Check(n, stored); (got == api.OK) != is || got != api.OK && got != api.ErrEntry {
			t.Errorf("%d kids, stored: %t: %d", len(n.Kids), stored, got)
		}
	}
}

func TestExamples(t *testing.T) { // the chapter's
	holds(t, entry(kids(t, base)...), true, false)
	holds(t, entry(kids(t, base+"<title>u</title>")...), false, false)
}

func TestWhatIsNoEntry(t *testing.T) { // O2: no element, of another name, of another space
	good := put(t, "")
	holds(t, good, true, true)
	for kind := -2; kind < 8; kind++ {
		n := good
		n.Kind = kind
		holds(t, n, kind == 0, kind == 0)
	}
	for _, name := range []string{"", "Entry", "ENTRY", "entr", "entrys", "entries", " entry", "entry ", "a:entry", "feed", "id", "author"} {
		n := good
		n.Name = name
		holds(t, n, false, false)
	}
	for _, space := range []string{"", "u", atoms + "/", atoms + " ", "http://www.w3.org/2005/atom", "https://www.w3.org/2005/Atom", "http://www.w3.org/2007/app", xhtmls, "HTTP://www.w3.org/2005/Atom"} {
		n := good
		n.Space = space
		holds(t, n, false, false)
	}
	for _, n := range []api.Node{{}, {Kind: 1}, {Space: atoms}, {Name: "entry"}, {Space: atoms, Name: "entry"}, {Kind: 1, Data: "x"}, {Kind: 2, Space: atoms, Name: "entry"}, entry([]api.Node{}...), entry(good), entry(text("x"))} {
		holds(t, n, false, false)
	}
}

func TestWhatAnEntryMayBeBeside(t *testing.T) { // O2: attributes and Data are not asked for
	n := put(t, "")
	n.Data = "x"
	n.Attrs = []api.Attr{{Name: "type", Value: "y"}, {Name: "type", Value: "z"}, {Space: "u", Name: "\xff", Value: "\x00"}, {}}
	holds(t, n, true, true)
	for i := range n.Kids {
		n.Kids[i].Data, n.Kids[i].Attrs = "x", []api.Attr{{Name: "href"}, {Space: "u", Name: "type", Value: "y"}}
	}
	holds(t, n, true, true)
}

func TestWhatMustBeThere(t *testing.T) { // O2: author and title; id and updated, too, if it is to be stored
	must := kids(t, "<author><name>A</name></author><title>t</title><id>urn:a</id><updated>2005-07-31T12:29:29Z</updated>")
	for left := range 16 {
		var l []api.Node
		for i, kid := range must {
			if left>>i&1 == 1 {
				l = append(l, kid)
			}
		}
		holds(t, entry(l...), left&3 == 3, left == 15)
		holds(t, with(entry(l...), kids(t, "<contributor><name>A</name></contributor><published>2005-07-31T12:29:29Z</published><summary>t</summary>")...), left&3 == 3, left == 15)
	}
	for i, kid := range must { // one that is not just so is none
		for _, x := range unlike(kid) {
			l := slices.Clone(must)
			l[i] = x
			holds(t, entry(l...), i > 1, false)
			holds(t, entry(append(l, kid)...), true, true)
		}
	}
}

// unlike are nodes that are a kid but for its space, its name or its kind.
func unlike(kid api.Node) []api.Node {
	var l []api.Node
	for _, space := range []string{"", xhtmls, atoms + "/"} {
		l = append(l, api.Node{Space: space, Name: kid.Name, Kids: kid.Kids})
	}
	for _, name := range []string{"", kid.Name + "s", kid.Name[1:], "a:" + kid.Name, strings.ToUpper(kid.Name)} {
		l = append(l, api.Node{Space: atoms, Name: name, Kids: kid.Kids})
	}
	for _, kind := range []int{-1, 1, 2, 3, 4} {
		l = append(l, api.Node{Kind: kind, Space: atoms, Name: kid.Name, Kids: kid.Kids, Data: "x"})
	}
	return append(l, el("b", "", "b", ""), entry(kid))
}

// each is one kid of each name, as it may be.
func each() map[string]string {
	return map[string]string{
		"author": "<author><name>A</name></author>", "contributor": "<contributor><name>A</name></contributor>", "category": "<category term='a'/>", "link": "<link href='a' rel='self'/>",
		"updated": "<updated>2005-07-31T12:29:29Z</updated>", "published": "<published>2005-07-31T12:29:29Z</published>", "title": "<title>t</title>", "summary": "<summary/>", "rights": "<rights>r</rights>", "id": "<id>urn:a</id>", "content": "<content>c</content>",
	}
}

func TestTwice(t *testing.T) { // O2: which may be there more than once, and which may not
	for name, s := range each() {
		more := name == "author" || name == "contributor" || name == "category" || name == "link"
		judge := refuses
		if more {
			judge = fits
		}
		fits(t, s)
		judge(t, s+s, s+s+s, s+"<!--c-->x"+s, s+"<o:"+name+"/>"+s)
		for other, x := range each() {
			if other == name {
				continue
			}
			fits(t, s+x, x+s)
			judge(t, s+x+s, s+s+x, x+s+s)
		}
		fits(t, s+"<o:"+name+"/><o:"+name+"/><x:"+name+"/>", "<x:"+name+">y</x:"+name+">"+s, s+"<b>"+s+"</b>")
	}
	all := ""
	for _, s := range each() {
		all += s
	}
	fits(t, all)
	refuses(t, all+all)
}

func TestTheSameNameInAnotherSpace(t *testing.T) { // O2: it may be anything
	for name := range each() {
		for _, prefix := range []string{"o:", "x:"} {
			open, end := "<"+prefix+name, "</"+prefix+name+">"
			fits(t, open+"/>", open+" type='y' href='' src=''/>", open+">x<b/>"+end, open+"><name/>"+end, open+"/>"+open+"/>")
		}
		n := put(t, "")
		for _, space := range []string{"", atoms + " ", "\xff"} {
			n = with(n, api.Node{Space: space, Name: name}, api.Node{Space: space, Name: name, Kids: []api.Node{{}}})
			holds(t, n, true, true)
		}
		for kind := 1; kind < 5; kind++ { // and what is no element
			n = with(n, api.Node{Kind: kind, Space: atoms, Name: name, Data: "x"})
			holds(t, n, true, true)
		}
	}
	fits(t, "<other/>", "<source/><Title/><titles type='y'/><link.x/>", "<entry/><feed/><name/><uri/><email/>", "<x:div/>", "x")
	holds(t, with(put(t, ""), api.Node{Space: atoms}, api.Node{Space: atoms, Name: "\xff"}, api.Node{}), true, true)
}

func TestFirstAttributes(t *testing.T) { // O2: of one name without a space the first one counts
	rest := put(t, "")
	for _, x := range []struct {
		is bool
		n  api.Node
	}{
		{true, el("link", "", "href", "a", "href", "")}, {false, el("link", "", "href", "", "href", "a")},
		{true, el("link", "", "href", "a", "type", "a/b", "type", "x")}, {false, el("link", "", "href", "a", "type", "x", "type", "a/b")},
		{true, el("summary", "x", "type", "text", "type", "y")}, {false, el("summary", "x", "type", "y", "type", "text")},
		{true, el("content", "x", "type", "a/b", "type", "y")}, {false, el("content", "x", "type", "multipart/b", "type", "a/b")},
		{true, api.Node{Space: atoms, Name: "content", Attrs: []api.Attr{{Name: "src", Value: "a"}, {Name: "src", Value: ""}}}}, {false, api.Node{Space: atoms, Name: "content", Attrs: []api.Attr{{Name: "src", Value: ""}, {Name: "src", Value: "a"}}}},
		{true, el("category", "", "term", "", "term", "a")}, {true, el("category", "", "", "", "term", "")},
	} {
		holds(t, with(rest, x.n), x.is, x.is)
	}
	alternate := el("link", "", "href", "a", "hreflang", "en", "type", "a/b")
	holds(t, with(rest, alternate, el("link", "", "href", "a", "hreflang", "en", "hreflang", "de", "type", "a/b", "type", "a/c")), false, false)
	holds(t, with(rest, alternate, el("link", "", "href", "a", "hreflang", "de", "hreflang", "en", "type", "a/b")), true, true)
	holds(t, with(rest, alternate, el("link", "", "href", "a", "hreflang", "en", "type", "a/c", "type", "a/b")), true, true)
	holds(t, with(rest, alternate, el("link", "", "href", "a", "hreflang", "en", "type", "a/b", "rel", "self", "rel", "alternate")), true, true)
	holds(t, with(rest, alternate, el("link", "", "href", "a", "hreflang", "en", "type", "a/b", "rel", "alternate", "rel", "self")), false, false)
}

func TestEachTwoKids(t *testing.T) { // O2: of many kids, good and bad ones, against the model
	good, bad := 0, 0
	for _, must := range []string{base, idAndUpdated + base, "<title>t</title>", "<author><name>A</name></author><id>urn:b</id>"} {
		rest := entry(kids(t, must)...)
		for _, a := range pool(t) {
			for _, b := range pool(t) {
				for _, stored := range []bool{false, true} {
					if agrees(t, with(rest, a, b), stored) {
						good++
					} else {
						bad++
					}
				}
			}
		}
	}
	if good < 1000 || bad < 1000 {
		t.Errorf("%d are entries, %d are none", good, bad)
	}
}

// pool is many kids: as they may be, and as they may not.
func pool(t *testing.T) []api.Node {
	t.Helper()
	var s string
	for _, name := range slices.Sorted(maps.Keys(each())) {
		s += each()[name]
	}
	return kids(t, s+"<author/><author><name>A</name><name>B</name></author><author><name>B</name><uri>a b</uri></author><contributor><o:name>A</o:name></contributor>"+
		"<updated>x</updated><published>2005-02-30T00:00:00Z</published><title type='html'>u</title><title type='y'/><summary><b/></summary><rights type='xhtml'> <x:div/></rights><rights type='xhtml'>x</rights>"+
		"<id>a</id><id>urn:b</id><link/><link href='a'/><link href='b' rel='alternate'/><link href='b' type='a/b'/><link href='c' type='A/B'/><link href='c' type='A'/><category/><category term='b'/>"+
		"<content src='a'/><content src='a'>x</content><content type='a/b'><b/></content><content type='message/b'/><other/><o:title/><!--c--><?p q?>x<x:div/>")
}
