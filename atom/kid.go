package atom

import (
	"strings"

	"broadsheet/api"
	"broadsheet/date"
	"broadsheet/locator"
	"broadsheet/media"
)

// isPerson tells whether n is a person.
func isPerson(n api.Node) bool {
	return areFit(n.Kids, personRules())
}

func isName(n api.Node) bool {
	return isPlain(n) && trimmed(n) != ""
}

func isURI(n api.Node) bool {
	return isPlain(n) && isReference(trimmed(n))
}

func isEmail(n api.Node) bool {
	ahead, behind, has := strings.Cut(trimmed(n), "@")
	return isPlain(n) && has && ahead != "" && behind != "" && !strings.Contains(behind, "@")
}

// isTime tells whether n is a point of time.
func isTime(n api.Node) bool {
	_, e := date.Parse(trimmed(n))
	return isPlain(n) && e == api.OK
}

func isID(n api.Node) bool {
	u, e := locator.Parse(trimmed(n))
	return isPlain(n) && e == api.OK && u.HasScheme
}

func isCategory(n api.Node) bool {
	_, has := attribute(n, "term")
	return has
}

// isTextConstruct tells whether n is a text construct.
func isTextConstruct(n api.Node) bool {
	switch kind, has := attribute(n, "type"); {
	case !has, kind == "text", kind == "html":
		return isPlain(n)
	case kind == "xhtml":
		return isDivAlone(n.Kids)
	}
	return false
}

// isDivAlone tells whether one div is all that kids tell, but for space, comments and instructions.
func isDivAlone(kids []api.Node) bool {
	divs := 0
	for _, kid := range kids {
		switch {
		case isElement(kid, xhtmlSpace, "div"):
			divs++
		case kid.Kind == api.Elem, kid.Kind == api.Text && withoutSpace(kid.Data) != "":
			return false
		}
	}
	return divs == 1
}

// isContent tells whether n may be the content. That text, html and xhtml may not stand beside src need not be asked:
// they are no media types.
func isContent(n api.Node) bool {
	kind, isTyped := attribute(n, "type")
	if src, has := attribute(n, "src"); has {
		return isReference(src) && len(n.Kids) == 0 && (!isTyped || isMedia(kind))
	}
	return isTextConstruct(n) || isSinglePart(kind)
}

// isSinglePart tells whether s is a media type whose contents are no bodies with heads of their own.
func isSinglePart(s string) bool {
	m, e := media.Parse(s)
	return e == api.OK && m.Type != "multipart" && m.Type != "message"
}

func isMedia(s string) bool {
	_, e := media.Parse(s)
	return e == api.OK
}

func isReference(s string) bool {
	_, e := locator.Parse(s)
	return e == api.OK && s != ""
}
