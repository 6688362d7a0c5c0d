package press_test

import (
	"slices"
	"strings"
	"testing"

	"broadsheet/api"
	"broadsheet/atom"
	"broadsheet/grove"
	"broadsheet/press"
	"broadsheet/scribe"
)

// entries calls f with many entries: what they must have, and up to three pieces at many places.
func entries(t *testing.T, f func(api.Node)) {
	t.Helper()
	pieces := kids(t, "<id>urn:old</id>"+updatedThen+editedThen+editLinkThere+mediaLinkThere+"<link href='a'/><link rel='self' href='a'/><o:id/>x<p:updated/><content type='xhtml'><x:div/></content><!--c--><?p q?>")
	pieces = append(pieces, text(""), text("\x00"), el(another, "", text("")))
	must := kids(t, base)
	all := [][]api.Node{nil}
	for range 4 {
		var longer [][]api.Node
		for _, l := range all {
			for at := 0; at <= len(l); at += 2 {
				n := entry(slices.Concat(l[:at], must[:1], l[at:], must[1:])...)
				if atom.Check(n, false) == api.OK {
					f(n)
				}
			}
			for _, x := range pieces {
				longer = append(longer, append(slices.Clone(l), x))
			}
		}
		all = longer
	}
}

// press1 is a node that Press answers.
func press1(t *testing.T, n api.Node, id, edit string, at int) api.Node {
	t.Helper()
	p, e := press.Press(n, id, edit, at)
	if e != api.OK {
		t.Fatalf("Press %s, %q, %q, %d: %d", shown(n), id, edit, at, e)
	}
	return p
}

// is fails unless two nodes are the same.
func is(t *testing.T, what string, got, want api.Node) {
	t.Helper()
	if !same(got, want) {
		t.Fatalf("%s:\n%s, not\n%s", what, shown(got), shown(want))
	}
}

// updatedOf is those of a node's kids that tell when it was updated.
func updatedOf(n api.Node) []api.Node {
	return slices.DeleteFunc(slices.Clone(n.Kids), func(kid api.Node) bool { return !isUpdated(kid) })
}

func TestPressedAgain(t *testing.T) { // P3: what is set now, the updated that was there, and the client's in its order
	count := 0
	entries(t, func(n api.Node) {
		count++
		once := press1(t, n, "urn:x", "/e", 5)
		twice := press1(t, once, "urn:y", "/f", 86400)
		l := slices.DeleteFunc(slices.Clone(once.Kids), isServers)
		is(t, "pressed again", twice, entry(slices.Concat(l, kids(t, "<id>urn:y</id><p:edited>1970-01-02T00:00:00Z</p:edited><link rel='edit' href='/f'/>"))...))
		is(t, "updated", entry(updatedOf(twice)...), entry(updatedOf(once)...))
		is(t, "pressed thrice", press1(t, twice, "urn:y", "/f", 86400), twice)
		is(t, "pressed as it was", press1(t, twice, "urn:x", "/e", 5), press1(t, once, "urn:x", "/e", 5))
		is(t, "stripped, and pressed", press1(t, press.Strip(n), "urn:x", "/e", 5), once)
		clients := press.Strip(n).Kids
		is(t, "the client's", entry(once.Kids[:len(clients)]...), entry(clients...))
		if len(updatedOf(n)) == 1 {
			is(t, "the client's updated", entry(updatedOf(once)...), entry(updatedOf(n)...))
			is(t, "pressed again alike", press1(t, once, "urn:x", "/e", 5), once)
		}
	})
	if count < 5000 {
		t.Errorf("no more than %d entries", count)
	}
}

func TestPressedWithWhatIsNoReference(t *testing.T) { // P1, P3: it is pressed, but what comes of it is no entry
	for _, x := range [][2]string{{"urn:x", ""}, {"urn:x", "a b"}, {"urn:x", "%"}, {"x", "/e"}, {" ", "/e"}, {"/x", "/e"}, {"urn:x y", "/e"}, {"x", ""}} {
		p := press1(t, with(t), x[0], x[1], 5)
		refuses(t, p, "urn:x", "/e", 5, api.ErrEntry)
		is(t, "stripped", press1(t, press.Strip(p), "urn:x", "/e", 5), press1(t, press1(t, with(t), "urn:y", "/f", 5), "urn:x", "/e", 5))
	}
}

func TestStrippedAgain(t *testing.T) { // P3: it is the same; and of what was pressed, all that is the client's, and the updated
	entries(t, func(n api.Node) {
		once := press.Strip(n)
		is(t, "stripped again", press.Strip(once), once)
		want := once
		if len(updatedOf(n)) == 0 {
			want = entry(append(slices.Clone(once.Kids), kids(t, "<updated>1970-01-01T00:00:05Z</updated>")...)...)
		}
		p := press.Strip(press1(t, n, "urn:x", "/e", 5))
		is(t, "pressed, and stripped", p, want)
		is(t, "pressed, and stripped again", press.Strip(p), want)
		if e := atom.Check(once, false); e != api.OK {
			t.Fatalf("%s: %d", shown(once), e)
		}
	})
}

func TestWhatIsPressedMayBeStored(t *testing.T) { // P3: and told, and is parsed as it was, if the entry may be told
	told, not := 0, 0
	entries(t, func(n api.Node) {
		for _, x := range [][2]string{{"urn:entry:1", "/c/1-a"}, {"a:", "#"}, {"http://a/b?c=d&e#f", "?"}} {
			p := press1(t, n, x[0], x[1], 86400)
			if e := atom.Check(p, true); e != api.OK {
				t.Fatalf("%s may not be stored: %d", shown(p), e)
			}
			s, e := scribe.Print(p)
			if _, was := scribe.Print(n); was != api.OK {
				not++
				continue
			}
			if e != api.OK {
				t.Fatalf("%s may not be told: %d", shown(p), e)
			}
			told++
			again, e := grove.Parse(s)
			if e != api.OK {
				t.Fatalf("%s: %d", s, e)
			}
			is(t, "told, and parsed", again, p)
		}
	})
	if told < 5000 || not < 500 {
		t.Errorf("%d were told, %d not", told, not)
	}
}

func TestWhatIsTold(t *testing.T) { // P3: as layer 10 tells it
	n, e := grove.Parse("<a:entry xmlns:a='" + atoms + "' xml:lang='en'>\n<a:id>urn:old</a:id>\n<a:author><a:name>A &amp; B</a:name></a:author>\n<a:link rel='edit' href='x'/>\n<a:title>t</a:title>\n</a:entry>")
	if e != api.OK {
		t.Fatal(e)
	}
	s, e := scribe.Print(press1(t, n, "urn:entry:1", "/c/1?a&b", 5))
	want := "<entry xmlns=\"http://www.w3.org/2005/Atom\" xml:lang=\"en\">\n\n<author><name>A &amp; B</name></author>\n\n<title>t</title>\n" +
		"<id>urn:entry:1</id><updated>1970-01-01T00:00:05Z</updated><edited xmlns=\"http://www.w3.org/2007/app\">1970-01-01T00:00:05Z</edited><link rel=\"edit\" href=\"/c/1?a&amp;b\"/></entry>"
	if s != want || e != api.OK {
		t.Errorf("%s, %d, not\n%s", s, e, want)
	}
}

func TestTreesThatHaveThemselves(t *testing.T) { // R1: each call ends
	for _, s := range []string{base, base + "<o:b/>", base + "<id>urn:a</id>", base + editedThen, base + updatedThen + editLinkThere + "x", "<b/>", "x" + editedThen + "y"} {
		l := kids(t, s)
		for i := range l {
			l := slices.Clone(l)
			l[i].Kids = l
			for _, n := range []api.Node{entry(l...), l[i]} {
				press.Strip(n)
				press.Press(n, "urn:x", "/e", 5)
			}
		}
	}
	self := []api.Node{entry(kids(t, base+"<o:b/>")...)}
	self[0].Kids[2].Kids = self
	p := press1(t, self[0], "urn:x", "/e", 5)
	if len(p.Kids) != 7 || len(press.Strip(p).Kids) != 4 {
		t.Errorf("%d kids", len(p.Kids))
	}
	deep := el(another, "b")
	for range 100000 {
		deep = entry(deep)
	}
	if p := press1(t, with(t, deep), "urn:x", "/e", 5); len(p.Kids) != 7 {
		t.Errorf("%d kids", len(p.Kids))
	}
}

// watched is an entry with room behind its lists, in which something stands.
func watched(t *testing.T) (n api.Node, l []api.Node, a []api.Attr) {
	t.Helper()
	l = append(make([]api.Node, 0, 40), kids(t, base+"<id>urn:old</id>x"+editedThen+"y"+editLinkThere+"z<!--c--><b/>")...)
	k := len(l)
	for range 20 {
		l = append(l, text("-"))
	}
	a = []api.Attr{{Name: "a", Value: "1"}, {Name: "-"}, {Name: "-"}}
	n = entry(l[:k]...)
	n.Attrs = a[:1]
	return n, l, a
}

func TestNothingIsWrittenInto(t *testing.T) { // R3, R4
	n, l, a := watched(t)
	was, wasL, wasA := watched(t)
	want, e := pressed(was, "urn:x", "/e", 5)
	if e != api.OK {
		t.Fatal(e)
	}
	for range 3 {
		answers(t, n, "urn:x", "/e", 5, want, api.OK)
		strips(t, n, stripped(was))
		refuses(t, n, "", "/e", 5, api.ErrArg)
		refuses(t, entry(l...), "", "/e", last+1, api.ErrDate)
		refuses(t, entry(l[1:]...), "urn:x", "/e", 5, api.ErrEntry)
		agrees(t, entry(l...), "urn:y", "", 6)
	}
	if !same(n, was) || !slices.EqualFunc(l, wasL, same) || !slices.Equal(a, wasA) {
		t.Errorf("%s, %v, %v", shown(n), l, a)
	}
}

func TestAnswersAreApart(t *testing.T) { // R4: one that is written into does not change another
	n, _, _ := watched(t)
	one, two, three := press1(t, n, "urn:x", "/e", 5), press1(t, n, "urn:y", "/f", 6), press.Strip(n)
	wasTwo, wasThree, was := copied(two), copied(three), copied(n)
	for i := range one.Kids {
		one.Kids[i] = text(strings.Repeat("-", i))
	}
	one.Kids = append(one.Kids[:0], text("-"))
	is(t, "another", two, wasTwo)
	is(t, "a stripped one", three, wasThree)
	is(t, "what was handed in", n, was)
}
