package press_test

import (
	"fmt"
	"slices"
	"testing"
	"time"

	"broadsheet/api"
	"broadsheet/atom"
	"broadsheet/glyph"
	"broadsheet/grove"
	"broadsheet/press"
)

// The spaces, as the chapters tell them; another stands for any that is none of them.
const (
	atoms   = "http://www.w3.org/2005/Atom"
	apps    = "http://www.w3.org/2007/app"
	xhtmls  = "http://www.w3.org/1999/xhtml"
	another = "urn:other"
)

// The first and the last second that chapter 11 tells.
const (
	first = -62167219200
	last  = 253402300799
)

// base is the kids that an entry must have.
const base = "<author><name>A</name></author><title>t</title>"

// isServers is the chapter's words about the server's, word by word.
func isServers(n api.Node) bool {
	rel := "alternate"
	if i := slices.IndexFunc(n.Attrs, func(a api.Attr) bool { return a.Space == "" && a.Name == "rel" }); i >= 0 {
		rel = n.Attrs[i].Value
	}
	switch [2]string{n.Space, n.Name} {
	case [2]string{atoms, "id"}, [2]string{apps, "edited"}:
		return n.Kind == 0
	case [2]string{atoms, "link"}:
		return n.Kind == 0 && slices.Contains([]string{"edit", "edit-media"}, rel)
	}
	return false
}

// made is what P1 and P2 have in common: kids without the server's, then others, texts side by side made one.
func made(l []api.Node, others ...api.Node) []api.Node {
	l = append(slices.DeleteFunc(slices.Clone(l), isServers), others...)
	for i := 1; i < len(l); {
		if l[i-1].Kind == 1 && l[i].Kind == 1 {
			l = slices.Replace(l, i-1, i+1, text(l[i-1].Data+l[i].Data))
		} else {
			i++
		}
	}
	return l
}

// stripped is P2 word by word.
func stripped(n api.Node) api.Node {
	n.Kids = made(n.Kids)
	return n
}

// pressed is P1 word by word.
func pressed(n api.Node, id, edit string, at int) (api.Node, api.Errno) {
	switch {
	case atom.Check(n, false) != api.OK:
		return api.Node{}, api.ErrEntry
	case at < first || at > last:
		return api.Node{}, api.ErrDate
	case id == "", glyph.Check(id) != api.OK, glyph.Check(edit) != api.OK:
		return api.Node{}, api.ErrArg
	}
	moment := time.Unix(int64(at), 0).UTC().Format("2006-01-02T15:04:05Z")
	set := []api.Node{el(atoms, "id", text(id)), el(atoms, "updated", text(moment)), el(apps, "edited", text(moment)), link("rel", "edit", "href", edit)}
	if slices.ContainsFunc(n.Kids, isUpdated) {
		set = slices.Delete(set, 1, 2)
	}
	n.Kids = made(n.Kids, set...)
	return n, api.OK
}

func isUpdated(n api.Node) bool { return n.Kind == 0 && n.Space == atoms && n.Name == "updated" }

// el is an element with kids.
func el(space, name string, kids ...api.Node) api.Node {
	return api.Node{Space: space, Name: name, Kids: kids}
}

func text(data string) api.Node { return api.Node{Kind: 1, Data: data} }

func comment(data string) api.Node { return api.Node{Kind: 2, Data: data} }

func instr(name, data string) api.Node { return api.Node{Kind: 3, Name: name, Data: data} }

// link is a link; names and values of its attributes are told in turn.
func link(l ...string) api.Node {
	n := el(atoms, "link")
	for i := 0; i < len(l); i += 2 {
		n.Attrs = append(n.Attrs, api.Attr{Name: l[i], Value: l[i+1]})
	}
	return n
}

// kids are the nodes that a text tells, in Atom's space where it names none: p is the protocol's prefix, x XHTML's, o that of another space.
func kids(t *testing.T, s string) []api.Node {
	t.Helper()
	n, e := grove.Parse("<entry xmlns='" + atoms + "' xmlns:p='" + apps + "' xmlns:x='" + xhtmls + "' xmlns:o='" + another + "'>" + s + "</entry>")
	if e != api.OK {
		t.Fatalf("%q: %d", s, e)
	}
	return n.Kids
}

// entry is an element entry with those kids, and no others.
func entry(l ...api.Node) api.Node { return el(atoms, "entry", l...) }

// with is an entry that has what it must have, and those kids.
func with(t *testing.T, l ...api.Node) api.Node {
	t.Helper()
	return entry(slices.Concat(kids(t, base), l)...)
}

// same tells whether two nodes are the same: a list without elements may be nil or not.
func same(a, b api.Node) bool {
	return a.Kind == b.Kind && a.Space == b.Space && a.Name == b.Name && a.Data == b.Data &&
		slices.Equal(a.Attrs, b.Attrs) && slices.EqualFunc(a.Kids, b.Kids, same)
}

// copied is a node that shares no list with it.
func copied(n api.Node) api.Node {
	n.Attrs = slices.Clone(n.Attrs)
	n.Kids = slices.Clone(n.Kids)
	for i, kid := range n.Kids {
		n.Kids[i] = copied(kid)
	}
	return n
}

// shown is a node as a failure tells it.
func shown(n api.Node) string { return fmt.Sprintf("%.2000q", fmt.Sprint(n)) }

// answers fails unless that is what Press answers, and the model does, and the node is as it was.
func answers(t *testing.T, n api.Node, id, edit string, at int, want api.Node, number api.Errno) {
	t.Helper()
	was := copied(n)
	if got, e := pressed(n, id, edit, at); !same(got, want) || e != number {
		t.Fatalf("the model of %s, %.100q, %.100q, %d: %s, %d", shown(n), id, edit, at, shown(got), e)
	}
	if got, e := press.Press(n, id, edit, at); !same(got, want) || e != number {
		t.Fatalf("Press %s, %.100q, %.100q, %d:\n%s, %d, not\n%s, %d", shown(n), id, edit, at, shown(got), e, shown(want), number)
	}
	if !same(n, was) {
		t.Fatalf("%s was %s", shown(n), shown(was))
	}
}

// agrees fails unless Press answers what the model does. It tells what that is.
func agrees(t *testing.T, n api.Node, id, edit string, at int) (api.Node, api.Errno) {
	t.Helper()
	want, e := pressed(n, id, edit, at)
	answers(t, n, id, edit, at, want, e)
	return want, e
}

// refuses fails unless Press answers that error, and the empty node.
func refuses(t *testing.T, n api.Node, id, edit string, at int, number api.Errno) {
	t.Helper()
	answers(t, n, id, edit, at, api.Node{}, number)
}

// strips fails unless Strip tells that of a node, and the model does, and the node is as it was.
func strips(t *testing.T, n, want api.Node) {
	t.Helper()
	was := copied(n)
	if got := stripped(n); !same(got, want) {
		t.Fatalf("the model of %s: %s", shown(n), shown(got))
	}
	if got := press.Strip(n); !same(got, want) {
		t.Fatalf("Strip %s:\n%s, not\n%s", shown(n), shown(got), shown(want))
	}
	if !same(n, was) {
		t.Fatalf("%s was %s", shown(n), shown(was))
	}
}
