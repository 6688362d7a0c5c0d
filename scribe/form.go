package scribe

import (
	"slices"
	"strings"

	"broadsheet/api"
	"broadsheet/glyph"
)

// The spaces that have a prefix of their own, as chapter 8 tells them.
const (
	xmlSpace   = "http://www.w3.org/XML/1998/namespace"
	xmlnsSpace = "http://www.w3.org/2000/xmlns/"
)

// mostAttributes is how many attributes an element may have: each may need a declaration, and so may the element,
// and with these they are to be no more than api.MaxAttrs.
const mostAttributes = 24

// spaces are the bytes that are space. No 13 may stand where they are looked for, but the words have it.
const spaces = " \t\n\r"

// mayBeTold tells whether a node that stands in that many elements may be told.
func mayBeTold(n api.Node, others int) bool {
	switch n.Kind {
	case api.Elem:
		return isElement(n, others)
	case api.Text:
		return n.Name == "" && isDataAlone(n) && n.Data != ""
	case api.Comment:
		return n.Name == "" && isDataAlone(n) && isComment(n.Data)
	case api.Instr:
		return isTarget(n.Name) && isDataAlone(n) && isInstruction(n.Data)
	}
	return false
}

// isElement tells whether an element that stands in that many others may be told.
// How deep it stands is asked ahead of its kids, or a tree that has itself in it would never end.
func isElement(n api.Node, others int) bool {
	return others < api.MaxDepth && n.Data == "" && glyph.Plain(n.Name) &&
		isText(n.Space) && n.Space != xmlSpace && n.Space != xmlnsSpace &&
		areAttributes(n.Attrs) && areKids(n.Kids, others+1)
}

func areAttributes(l []api.Attr) bool {
	if len(l) > mostAttributes {
		return false
	}
	for i, a := range l {
		if !isAttribute(a) || has(l[:i], a.Space, a.Name) {
			return false
		}
	}
	return true
}

func isAttribute(a api.Attr) bool {
	if a.Space == "" && a.Name == "xmlns" { // it would declare
		return false
	}
	return glyph.Plain(a.Name) && isText(a.Space) && a.Space != xmlnsSpace && isText(a.Value)
}

// has tells whether one of those attributes has that space and that name.
func has(l []api.Attr, space, name string) bool {
	return slices.ContainsFunc(l, func(a api.Attr) bool {
		return a.Space == space && a.Name == name
	})
}

// areKids tells whether the kids of an element may be told; they stand in that many elements.
func areKids(l []api.Node, others int) bool {
	for i, n := range l {
		if !mayBeTold(n, others) {
			return false
		}
		if i > 0 && n.Kind == api.Text && l[i-1].Kind == api.Text { // they would be read as one
			return false
		}
	}
	return true
}

// isDataAlone tells whether a node has Data that is a text, and nothing else, whatever its name.
func isDataAlone(n api.Node) bool {
	return n.Space == "" && len(n.Attrs) == 0 && len(n.Kids) == 0 && isText(n.Data)
}

// isComment tells whether a comment may have that Data: it is to end where it ends.
func isComment(data string) bool {
	return !strings.Contains(data, "--") && !strings.HasSuffix(data, "-") && !has13(data)
}

// isTarget tells whether an instruction may have that name.
func isTarget(name string) bool {
	return glyph.Plain(name) && !strings.EqualFold(name, "xml")
}

// isInstruction tells whether an instruction may have that Data.
func isInstruction(data string) bool {
	return !strings.Contains(data, "?>") && !has13(data) && strings.TrimLeft(data, spaces) == data
}

// has13 tells whether s has a 13, in whose place a 10 would be read where no reference can stand.
func has13(s string) bool {
	return strings.Contains(s, "\r")
}

// isText tells whether s may stand in a document. A plain name always may.
func isText(s string) bool {
	return glyph.Check(s) == api.OK
}
