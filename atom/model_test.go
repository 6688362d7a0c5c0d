package atom_test

import (
	"fmt"
	"regexp"
	"slices"
	"strings"
	"testing"

	"broadsheet/api"
	"broadsheet/atom"
	"broadsheet/date"
	"broadsheet/grove"
	"broadsheet/locator"
	"broadsheet/media"
)

// The spaces, as the chapter tells them.
const (
	atoms  = "http://www.w3.org/2005/Atom"
	xhtmls = "http://www.w3.org/1999/xhtml"
)

// base is the kids that an entry must have, and idAndUpdated those that one must have beside that is stored.
const (
	base         = "<author><name>A</name></author><title>t</title>"
	idAndUpdated = "<id>urn:a</id><updated>2005-07-31T12:29:29Z</updated>"
)

var (
	spaceAbout = regexp.MustCompile(`\A[\x20\x09\x0A\x0D]+|[\x20\x09\x0A\x0D]+\z`)
	emailForm  = regexp.MustCompile(`(?s)\A[^@]+@[^@]+\z`)
	capital    = regexp.MustCompile(`[A-Z]`)
)

// isEntry is O2 word by word.
func isEntry(n api.Node, stored bool) bool {
	each := func(is func(api.Node) bool, names ...string) bool {
		return !slices.ContainsFunc(names, func(name string) bool {
			return slices.ContainsFunc(kidsOf(n, name), func(kid api.Node) bool { return !is(kid) })
		})
	}
	atMostOne := func(name string) bool { return len(kidsOf(n, name)) <= 1 }
	return isA(n, atoms, "entry") &&
		each(isPerson, "author", "contributor") && each(isMoment, "updated", "published") && each(isConstruct, "title", "summary", "rights") &&
		each(isWholeReference, "id") && each(isLink, "link") && each(isCategory, "category") && each(isContent, "content") &&
		atMostOne("updated") && atMostOne("published") && atMostOne("title") && atMostOne("summary") && atMostOne("rights") && atMostOne("id") && atMostOne("content") &&
		len(kidsOf(n, "author")) > 0 && len(kidsOf(n, "title")) > 0 &&
		(!stored || len(kidsOf(n, "id")) > 0 && len(kidsOf(n, "updated")) > 0) && areApart(kidsOf(n, "link"))
}

func isA(n api.Node, space, name string) bool {
	return n.Kind == 0 && n.Space == space && n.Name == name
}

// kidsOf is the kids of that name.
func kidsOf(n api.Node, name string) []api.Node {
	return slices.DeleteFunc(slices.Clone(n.Kids), func(kid api.Node) bool { return !isA(kid, atoms, name) })
}

// valueOf is the attribute of that name, or nil.
func valueOf(n api.Node, name string) *string {
	i := slices.IndexFunc(n.Attrs, func(a api.Attr) bool { return a.Space == "" && a.Name == name })
	if i < 0 {
		return nil
	}
	return &n.Attrs[i].Value
}

// has tells whether an attribute is there and one of those texts.
func has(n api.Node, name string, l ...string) bool {
	value := valueOf(n, name)
	return value != nil && slices.Contains(l, *value)
}

// joined is O1.
func joined(n api.Node) (s string) {
	for _, kid := range n.Kids {
		if kid.Kind == 1 {
			s += kid.Data
		}
	}
	return s
}

func ownText(n api.Node) string { return spaceAbout.ReplaceAllString(joined(n), "") }

func isPlain(n api.Node) bool {
	return !slices.ContainsFunc(n.Kids, func(kid api.Node) bool { return kid.Kind == 0 })
}

func isReference(s string) bool {
	_, e := locator.Parse(s)
	return s != "" && e == 0
}

func isConstruct(n api.Node) bool {
	if valueOf(n, "type") == nil || has(n, "type", "text", "html") {
		return isPlain(n)
	}
	others := slices.DeleteFunc(slices.Clone(n.Kids), func(kid api.Node) bool {
		return kid.Kind == 1 && spaceAbout.ReplaceAllString(kid.Data, "") == "" || kid.Kind > 1 || kid.Kind < 0
	})
	return has(n, "type", "xhtml") && len(others) == 1 && isA(others[0], xhtmls, "div")
}

func isPerson(n api.Node) bool {
	each := func(name string, is func(string) bool) bool {
		return !slices.ContainsFunc(kidsOf(n, name), func(kid api.Node) bool { return !isPlain(kid) || !is(ownText(kid)) })
	}
	return len(kidsOf(n, "name")) == 1 && len(kidsOf(n, "uri")) <= 1 && len(kidsOf(n, "email")) <= 1 &&
		each("name", func(s string) bool { return s != "" }) && each("uri", isReference) && each("email", emailForm.MatchString)
}

func isMoment(n api.Node) bool {
	_, e := date.Parse(ownText(n))
	return isPlain(n) && e == 0
}

func isWholeReference(n api.Node) bool {
	u, e := locator.Parse(ownText(n))
	return isPlain(n) && e == 0 && u.HasScheme
}

func isCategory(n api.Node) bool { return valueOf(n, "term") != nil }

// isMedia tells whether the attribute type is there, and a media type.
func isMedia(n api.Node) (api.Media, bool) {
	if valueOf(n, "type") == nil {
		return api.Media{}, false
	}
	m, e := media.Parse(*valueOf(n, "type"))
	return m, e == 0
}

func isLink(n api.Node) bool {
	_, is := isMedia(n)
	return valueOf(n, "href") != nil && isReference(*valueOf(n, "href")) && (is || valueOf(n, "type") == nil)
}

func isContent(n api.Node) bool {
	m, is := isMedia(n)
	switch {
	case valueOf(n, "src") != nil:
		return isReference(*valueOf(n, "src")) && len(n.Kids) == 0 && (valueOf(n, "type") == nil || !has(n, "type", "text", "html", "xhtml") && is)
	case valueOf(n, "type") == nil || has(n, "type", "text", "html", "xhtml"):
		return isConstruct(n)
	}
	return is && m.Type != "multipart" && m.Type != "message"
}

// areApart asks each two links for alternate.
func areApart(l []api.Node) bool {
	l = slices.DeleteFunc(l, func(n api.Node) bool { return valueOf(n, "rel") != nil && !has(n, "rel", "alternate") })
	for i, a := range l {
		for _, b := range l[:i] {
			if isAlike(a, b, "type") && isAlike(a, b, "hreflang") {
				return false
			}
		}
	}
	return true
}

// isAlike tells whether two nodes have the same attribute of that name, or none.
func isAlike(a, b api.Node, name string) bool {
	x, y := valueOf(a, name), valueOf(b, name)
	if x == nil || y == nil {
		return x == y
	}
	return lowered(*x) == lowered(*y)
}

func lowered(s string) string { return capital.ReplaceAllStringFunc(s, strings.ToLower) }

// kids are the nodes that a text tells, in Atom's space where it names none: x is XHTML's prefix, o that of another space.
func kids(t *testing.T, s string) []api.Node {
	t.Helper()
	n, e := grove.Parse("<entry xmlns='" + atoms + "' xmlns:x='" + xhtmls + "' xmlns:o='urn:other'>" + s + "</entry>")
	if e != api.OK {
		t.Fatalf("%q: %d", s, e)
	}
	return n.Kids
}

// kid is the one node that a text tells.
func kid(t *testing.T, s string) api.Node {
	t.Helper()
	l := kids(t, s)
	if len(l) != 1 {
		t.Fatalf("%q: %d kids", s, len(l))
	}
	return l[0]
}

// entry is an element entry with those kids, and no others.
func entry(l ...api.Node) api.Node { return api.Node{Space: atoms, Name: "entry", Kids: l} }

// el is an element of Atom's space with a text; names and values of attributes stand behind that, in turn.
func el(name, data string, l ...string) api.Node {
	n := api.Node{Space: atoms, Name: name, Kids: []api.Node{text(data)}}
	for i := 0; i < len(l); i += 2 {
		n.Attrs = append(n.Attrs, api.Attr{Name: l[i], Value: l[i+1]})
	}
	return n
}

func text(data string) api.Node { return api.Node{Kind: 1, Data: data} }

func comment(data string) api.Node { return api.Node{Kind: 2, Data: data} }

func instr(name, data string) api.Node { return api.Node{Kind: 3, Name: name, Data: data} }

// with is a node with more kids.
func with(n api.Node, more ...api.Node) api.Node {
	n.Kids = append(slices.Clone(n.Kids), more...)
	return n
}

// holds fails unless Check tells, and the model does, whether it is an entry, and one that may be stored.
func holds(t *testing.T, n api.Node, is, mayBeStored bool) {
	t.Helper()
	for _, stored := range []bool{false, true} {
		want := is && (mayBeStored || !stored)
		if got := isEntry(n, stored); got != want {
			t.Fatalf("the model of %s, stored: %t: %t", shown(n), stored, got)
		}
		agrees(t, n, stored)
	}
}

// agrees fails unless Check answers what the model does. It tells whether that is OK.
func agrees(t *testing.T, n api.Node, stored bool) bool {
	t.Helper()
	is, want := isEntry(n, stored), api.ErrEntry
	if is {
		want = api.OK
	}
	if got := atom.Check(n, stored); got != want {
		t.Fatalf("Check %s, %t: %d, not %d", shown(n), stored, got, want)
	}
	return is
}

// put is an element entry with the kids that a text tells, and one of each that must be there, unless there is one so.
func put(t *testing.T, s string) api.Node {
	t.Helper()
	n := entry(kids(t, s)...)
	for _, must := range kids(t, base+idAndUpdated) {
		if len(kidsOf(n, must.Name)) == 0 {
			n = with(n, must)
		}
	}
	return n
}

// fits fails unless each of the texts tells kids that an entry may have.
func fits(t *testing.T, l ...string) {
	t.Helper()
	for _, s := range l {
		holds(t, put(t, s), true, true)
	}
}

// refuses fails unless none of the texts tells such kids.
func refuses(t *testing.T, l ...string) {
	t.Helper()
	for _, s := range l {
		holds(t, put(t, s), false, false)
	}
}

// shown is a node as a failure tells it.
func shown(n api.Node) string { return fmt.Sprintf("%.1500q", fmt.Sprint(n)) }
