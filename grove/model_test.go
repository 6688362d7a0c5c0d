package grove_test

import (
	"encoding/xml"
	"fmt"
	"io"
	"maps"
	"slices"
	"strings"
	"testing"

	"broadsheet/api"
	"broadsheet/grove"
	"broadsheet/prefix"
	"broadsheet/token"
)

// The spaces, as chapter 8 tells them.
const (
	xmls   = "http://www.w3.org/XML/1998/namespace"
	xmlnss = "http://www.w3.org/2000/xmlns/"
)

// parse is I1 word by word.
func parse(s string) (api.Node, api.Errno) {
	l, e := token.Tokens(s)
	if e != api.OK {
		return api.Node{}, e
	}
	var roots []api.Node
	for len(l) > 0 {
		x := l[0]
		l = l[1:]
		switch {
		case x.Kind == api.Open && len(roots) == 0:
			n, rest, e := elementOf(x, l, 0, map[string]string{})
			if e != api.OK {
				return api.Node{}, e
			}
			roots, l = append(roots, n), rest
		case x.Kind == api.Open, x.Kind == api.Close, x.Kind == api.Chars && (x.Alone || strings.Trim(x.Data, "\x20\x09\x0a\x0d") != ""):
			return api.Node{}, api.ErrNest
		case x.Kind == api.PI && strings.Contains(x.Name, ":"): // the rest of a plain name it has, being a name
			return api.Node{}, api.ErrPrefix
		}
	}
	if len(roots) == 0 {
		return api.Node{}, api.ErrNest
	}
	return roots[0], api.OK
}

// elementOf is the element that begins with that start-tag and stands in that many others, and the tokens behind it.
func elementOf(tag api.Token, l []api.Token, others int, outer map[string]string) (n api.Node, rest []api.Token, e api.Errno) {
	n, scope, e := opened(tag, others, outer)
	if e != api.OK || tag.Alone {
		return n, l, e
	}
	for len(l) > 0 {
		x := l[0]
		l = l[1:]
		switch x.Kind {
		case api.Open:
			kid, behind, e := elementOf(x, l, others+1, scope)
			if e != api.OK {
				return api.Node{}, nil, e
			}
			n.Kids, l = append(n.Kids, kid), behind
		case api.Close:
			if x.Name != tag.Name {
				return api.Node{}, nil, api.ErrNest
			}
			return n, l, api.OK
		case api.Chars:
			data := x.Data
			for len(l) > 0 && l[0].Kind == api.Chars {
				data, l = data+l[0].Data, l[1:]
			}
			if data != "" {
				n.Kids = append(n.Kids, text(data))
			}
		case api.Note:
			n.Kids = append(n.Kids, comment(x.Data))
		case api.PI:
			if strings.Contains(x.Name, ":") {
				return api.Node{}, nil, api.ErrPrefix
			}
			n.Kids = append(n.Kids, instr(x.Name, x.Data))
		}
	}
	return api.Node{}, nil, api.ErrNest
}

// opened is what a start-tag tells of its element, and its scope.
func opened(tag api.Token, others int, outer map[string]string) (n api.Node, scope map[string]string, e api.Errno) {
	if others >= 30 || len(tag.Attrs) > 50 {
		return api.Node{}, nil, api.ErrLong
	}
	declared, rest, e := prefix.Declare(tag.Attrs)
	if e != api.OK {
		return api.Node{}, nil, e
	}
	scope = maps.Clone(outer)
	for _, b := range declared {
		scope[b.Name] = b.Value
	}
	space, name, e := resolved(scope, tag.Name, false)
	if e != api.OK {
		return api.Node{}, nil, e
	}
	n = api.Node{Space: space, Name: name}
	for _, a := range rest {
		space, name, e := resolved(scope, a.Name, true)
		if e != api.OK {
			return api.Node{}, nil, e
		}
		if slices.ContainsFunc(n.Attrs, func(b api.Attr) bool { return b.Space == space && b.Name == name }) {
			return api.Node{}, nil, api.ErrDouble
		}
		n.Attrs = append(n.Attrs, api.Attr{Space: space, Name: name, Value: a.Value})
	}
	return n, scope, api.OK
}

// resolved is H3 word by word, of a scope of which the last pairs alone are left.
func resolved(scope map[string]string, s string, attr bool) (space, local string, e api.Errno) {
	ahead, local, e := prefix.Split(s)
	switch {
	case e != api.OK || ahead == "xmlns":
		return "", "", api.ErrPrefix
	case ahead == "xml":
		return xmls, local, api.OK
	case ahead == "" && attr:
		return "", local, api.OK
	case ahead != "" && scope[ahead] == "":
		return "", "", api.ErrPrefix
	}
	return scope[ahead], local, api.OK
}

// read is the one element of a document as Go's own library reads it. It asks less of it than the chapter does.
func read(s string) (api.Node, error) {
	open := []api.Node{{}}
	d := xml.NewDecoder(strings.NewReader(s))
	for {
		x, err := d.Token()
		if err == io.EOF {
			return slices.DeleteFunc(open[0].Kids, func(n api.Node) bool { return n.Kind != api.Elem })[0], nil
		}
		if err != nil {
			return api.Node{}, err
		}
		top := &open[len(open)-1]
		switch y := x.(type) {
		case xml.StartElement:
			n := api.Node{Space: y.Name.Space, Name: y.Name.Local}
			for _, a := range y.Attr {
				if a.Name.Space != "xmlns" && a.Name != (xml.Name{Local: "xmlns"}) {
					n.Attrs = append(n.Attrs, api.Attr{Space: a.Name.Space, Name: a.Name.Local, Value: a.Value})
				}
			}
			open = append(open, n)
		case xml.EndElement:
			n := *top
			open = open[:len(open)-1]
			open[len(open)-1].Kids = append(open[len(open)-1].Kids, n)
		case xml.CharData:
			if k := len(top.Kids); k > 0 && top.Kids[k-1].Kind == api.Text {
				top.Kids[k-1].Data += string(y)
			} else if len(y) > 0 {
				top.Kids = append(top.Kids, text(string(y)))
			}
		case xml.Comment:
			top.Kids = append(top.Kids, comment(string(y)))
		case xml.ProcInst:
			top.Kids = append(top.Kids, instr(y.Target, string(y.Inst)))
		}
	}
}

// el is an element.
func el(space, name string, l []api.Attr, kids ...api.Node) api.Node {
	return api.Node{Kind: 0, Space: space, Name: name, Attrs: l, Kids: kids}
}

func text(data string) api.Node { return api.Node{Kind: 1, Data: data} }

func comment(data string) api.Node { return api.Node{Kind: 2, Data: data} }

func instr(name, data string) api.Node { return api.Node{Kind: 3, Name: name, Data: data} }

// attrs are spaces, names and values, in turn.
func attrs(l ...string) []api.Attr {
	var told []api.Attr
	for i := 0; i < len(l); i += 3 {
		told = append(told, api.Attr{Space: l[i], Name: l[i+1], Value: l[i+2]})
	}
	return told
}

// same tells whether two nodes are the same: a list without elements may be nil or not.
func same(a, b api.Node) bool {
	return a.Kind == b.Kind && a.Space == b.Space && a.Name == b.Name && a.Data == b.Data &&
		slices.Equal(a.Attrs, b.Attrs) && slices.EqualFunc(a.Kids, b.Kids, same)
}

// shown is a node as a failure tells it.
func shown(n api.Node) string { return fmt.Sprintf("%.500q", fmt.Sprint(n)) }

// is fails unless that is the tree of s.
func is(t *testing.T, s string, want api.Node) {
	t.Helper()
	answers(t, s, want, api.OK)
}

// refuses fails unless Parse answers that error, and the empty node beside it.
func refuses(t *testing.T, s string, want api.Errno) {
	t.Helper()
	answers(t, s, api.Node{}, want)
}

// agrees fails unless Parse answers what the chapter's words ask.
func agrees(t *testing.T, s string) {
	t.Helper()
	n, e := parse(s)
	answers(t, s, n, e)
}

func answers(t *testing.T, s string, want api.Node, number api.Errno) {
	t.Helper()
	if n, e := grove.Parse(s); !same(n, want) || e != number {
		t.Fatalf("Parse %.500q: %s, %d, not %s, %d", s, shown(n), e, shown(want), number)
	}
}

// texts calls f with every text of up to n of the pieces, one behind the other.
func texts(pieces []string, n int, f func(string)) {
	told("", pieces, n, f)
}

func told(s string, pieces []string, n int, f func(string)) {
	f(s)
	if n == 0 {
		return
	}
	for _, x := range pieces {
		told(s+x, pieces, n-1, f)
	}
}

// nested is n start-tags, what stands inside, and n end-tags.
func nested(n int, inside string) string {
	return strings.Repeat("<a>", n) + inside + strings.Repeat("</a>", n)
}

// listed is n attributes, each with a blank ahead; their names are that one, with a number behind it.
func listed(n int, name, value string) string {
	var b strings.Builder
	for i := range n {
		fmt.Fprintf(&b, " %s%d='%s'", name, i, value)
	}
	return b.String()
}
