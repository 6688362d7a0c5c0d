package scribe_test

import (
	"encoding/xml"
	"fmt"
	"io"
	"regexp"
	"slices"
	"strings"
	"testing"
	"unicode/utf8"

	"broadsheet/api"
	"broadsheet/grove"
	"broadsheet/scribe"
)

// The spaces, as chapter 8 tells them.
const (
	xmls   = "http://www.w3.org/XML/1998/namespace"
	xmlnss = "http://www.w3.org/2000/xmlns/"
)

// What E1 says may begin a name, and stand in it, but for the colon; and what may stand in a document.
const (
	start = `A-Z_a-z\xC0-\xD6\xD8-\xF6\xF8-\x{2FF}\x{370}-\x{37D}\x{37F}-\x{1FFF}\x{200C}\x{200D}\x{2070}-\x{218F}\x{2C00}-\x{2FEF}\x{3001}-\x{D7FF}\x{F900}-\x{FDCF}\x{FDF0}-\x{FFFD}\x{10000}-\x{EFFFF}`
	part  = start + `\-.0-9\xB7\x{300}-\x{36F}\x{203F}\x{2040}`
)

var (
	plains = regexp.MustCompile(`\A[` + start + `][` + part + `]*\z`)
	chars  = regexp.MustCompile(`\A[\x09\x0A\x0D\x20-\x{D7FF}\x{E000}-\x{FFFD}\x{10000}-\x{10FFFF}]*\z`)
	anyXML = regexp.MustCompile(`\A[Xx][Mm][Ll]\z`)
	heads  = regexp.MustCompile(`\A[\x20\x09\x0A\x0D]`)
)

func isPlain(s string) bool { return utf8.ValidString(s) && plains.MatchString(s) }

// passes tells whether a text passes layer 5's Check.
func passes(s string) bool { return utf8.ValidString(s) && chars.MatchString(s) }

// maySay is the chapter's words about the nodes that may be told, word by word.
func maySay(n api.Node, others int) bool {
	bare := n.Space == "" && len(n.Attrs) == 0 && len(n.Kids) == 0
	switch {
	case !passes(n.Space), !passes(n.Name), !passes(n.Data):
		return false
	case n.Kind == 0:
		return isPlain(n.Name) && n.Space != xmls && n.Space != xmlnss && n.Data == "" && others < 30 && maySayAttrs(n.Attrs) && maySayKids(n.Kids, others+1)
	case n.Kind == 1:
		return bare && n.Name == "" && n.Data != ""
	case n.Kind == 2:
		return bare && n.Name == "" && !strings.Contains(n.Data, "--") && !strings.Contains(n.Data, "\x0D") && !strings.HasSuffix(n.Data, "-")
	case n.Kind == 3:
		return bare && isPlain(n.Name) && !anyXML.MatchString(n.Name) && !strings.Contains(n.Data, "?>") && !strings.Contains(n.Data, "\x0D") && !heads.MatchString(n.Data)
	}
	return false
}

func maySayAttrs(l []api.Attr) bool {
	seen := map[[2]string]bool{}
	for _, a := range l {
		x := [2]string{a.Space, a.Name}
		if !passes(a.Space) || !passes(a.Value) || !isPlain(a.Name) || a.Space == xmlnss || x == [2]string{"", "xmlns"} || seen[x] {
			return false
		}
		seen[x] = true
	}
	return len(l) <= 24
}

func maySayKids(l []api.Node, others int) bool {
	for i, n := range l {
		if !maySay(n, others) || i > 0 && n.Kind == 1 && l[i-1].Kind == 1 {
			return false
		}
	}
	return true
}

// said is a node's text as J1 tells it, word by word, in an element of that space.
func said(n api.Node, outer string) string {
	switch n.Kind {
	case 1:
		return strings.NewReplacer("&", "&amp;", "<", "&lt;", ">", "&gt;", "\x0D", "&#xD;").Replace(n.Data)
	case 2:
		return "<!--" + n.Data + "-->"
	case 3:
		if n.Data == "" {
			return "<?" + n.Name + "?>"
		}
		return "<?" + n.Name + " " + n.Data + "?>"
	}
	s := "<" + n.Name
	if n.Space != outer {
		s += fmt.Sprintf(` xmlns="%s"`, value(n.Space))
	}
	for i, a := range n.Attrs {
		ahead := ""
		if a.Space == xmls {
			ahead = "xml:"
		} else if a.Space != "" {
			ahead = fmt.Sprintf("n%d:", i)
			s += fmt.Sprintf(` xmlns:n%d="%s"`, i, value(a.Space))
		}
		s += fmt.Sprintf(` %s%s="%s"`, ahead, a.Name, value(a.Value))
	}
	if len(n.Kids) == 0 {
		return s + "/>"
	}
	parts := []string{s, ">"}
	for _, kid := range n.Kids {
		parts = append(parts, said(kid, n.Space))
	}
	return strings.Join(append(parts, "</", n.Name, ">"), "")
}

// value is a text, or a space, as it stands in quotes.
func value(s string) string {
	return strings.NewReplacer("&", "&amp;", "<", "&lt;", ">", "&gt;", "\x0D", "&#xD;", `"`, "&quot;", "\x09", "&#x9;", "\x0A", "&#xA;").Replace(s)
}

// printed is J1 word by word.
func printed(n api.Node) (string, api.Errno) {
	if n.Kind != 0 || !maySay(n, 0) {
		return "", api.ErrForm
	}
	if s := said(n, ""); len(s) <= 100000 {
		return s, api.OK
	}
	return "", api.ErrLong
}

// read is the one element of a document as Go's own library reads it. It asks less of it than chapter 9 does.
func read(s string) (api.Node, error) {
	open := []api.Node{{}}
	d := xml.NewDecoder(strings.NewReader(s))
	for {
		x, err := d.Token()
		if err == io.EOF {
			return open[0].Kids[0], nil
		}
		if err != nil {
			return api.Node{}, err
		}
		top := &open[len(open)-1]
		switch y := x.(type) {
		case xml.StartElement:
			n := api.Node{Space: y.Name.Space, Name: y.Name.Local}
			for _, a := range y.Attr {
				if a.Name.Space != "xmlns" && a.Name != (xml.Name{Local: "xmlns"}) {
					n.Attrs = append(n.Attrs, api.Attr{Space: a.Name.Space, Name: a.Name.Local, Value: a.Value})
				}
			}
			open = append(open, n)
		case xml.EndElement:
			n := *top
			open = open[:len(open)-1]
			open[len(open)-1].Kids = append(open[len(open)-1].Kids, n)
		case xml.CharData:
			top.Kids = append(top.Kids, text(string(y)))
		case xml.Comment:
			top.Kids = append(top.Kids, comment(string(y)))
		case xml.ProcInst:
			top.Kids = append(top.Kids, instr(y.Target, string(y.Inst)))
		}
	}
}

// el is an element.
func el(space, name string, l []api.Attr, kids ...api.Node) api.Node {
	return api.Node{Kind: 0, Space: space, Name: name, Attrs: l, Kids: kids}
}

func text(data string) api.Node { return api.Node{Kind: 1, Data: data} }

func comment(data string) api.Node { return api.Node{Kind: 2, Data: data} }

func instr(name, data string) api.Node { return api.Node{Kind: 3, Name: name, Data: data} }

// attrs are spaces, names and values, in turn.
func attrs(l ...string) []api.Attr {
	var told []api.Attr
	for i := 0; i < len(l); i += 3 {
		told = append(told, api.Attr{Space: l[i], Name: l[i+1], Value: l[i+2]})
	}
	return told
}

// listed is n attributes of that space; their names are b, with a number behind it.
func listed(n int, space, value string) []api.Attr {
	var told []api.Attr
	for i := range n {
		told = append(told, api.Attr{Space: space, Name: fmt.Sprintf("b%d", i), Value: value})
	}
	return told
}

// nested is n elements, each in the one ahead of it, and those kids in the innermost one.
func nested(n int, kids ...api.Node) api.Node {
	x := el("", "a", nil, kids...)
	for range n - 1 {
		x = el("", "a", nil, x)
	}
	return x
}

// same tells whether two nodes are the same: a list without elements may be nil or not.
func same(a, b api.Node) bool {
	return a.Kind == b.Kind && a.Space == b.Space && a.Name == b.Name && a.Data == b.Data &&
		slices.Equal(a.Attrs, b.Attrs) && slices.EqualFunc(a.Kids, b.Kids, same)
}

// copied is a node that shares no list with it.
func copied(n api.Node) api.Node {
	n.Attrs = slices.Clone(n.Attrs)
	n.Kids = slices.Clone(n.Kids)
	for i, kid := range n.Kids {
		n.Kids[i] = copied(kid)
	}
	return n
}

// shown is a node as a failure tells it.
func shown(n api.Node) string { return fmt.Sprintf("%.500q", fmt.Sprint(n)) }

// is fails unless the tree is told so, and parsed as it was.
func is(t *testing.T, n api.Node, want string) {
	t.Helper()
	answers(t, n, want, api.OK)
	comesBack(t, n, want)
}

// refuses fails unless Print answers that error, and nothing beside it.
func refuses(t *testing.T, n api.Node, want api.Errno) {
	t.Helper()
	answers(t, n, "", want)
}

// agrees fails unless Print answers what the chapter's words ask. It tells what that is.
func agrees(t *testing.T, n api.Node) (string, api.Errno) {
	t.Helper()
	s, e := printed(n)
	answers(t, n, s, e)
	return s, e
}

func answers(t *testing.T, n api.Node, want string, number api.Errno) {
	t.Helper()
	if s, e := scribe.Print(n); s != want || e != number {
		t.Fatalf("Print %s: %.500q (%d bytes), %d, not %.500q (%d bytes), %d", shown(n), s, len(s), e, want, len(want), number)
	}
}

// comesBack fails unless s is parsed as that tree.
func comesBack(t *testing.T, n api.Node, s string) {
	t.Helper()
	if m, e := grove.Parse(s); !same(m, n) || e != api.OK {
		t.Fatalf("%s is told as %.500q, but parsed as %s, %d", shown(n), s, shown(m), e)
	}
}
