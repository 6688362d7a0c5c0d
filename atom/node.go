package atom

import (
	"strings"

	"broadsheet/api"
)

// spaces are the bytes that are space.
const spaces = " \t\n\r"

// isElement tells whether n is an element of that space, with that name.
func isElement(n api.Node, space, name string) bool {
	return n.Kind == api.Elem && n.Space == space && n.Name == name
}

// isPlain tells whether n has no element among its kids.
func isPlain(n api.Node) bool {
	for _, kid := range n.Kids {
		if kid.Kind == api.Elem {
			return false
		}
	}
	return true
}

// trimmed is n's text without the space about it.
func trimmed(n api.Node) string {
	return withoutSpace(Text(n))
}

func withoutSpace(s string) string {
	return strings.Trim(s, spaces)
}

// attribute is the Value of n's first attribute of that name without a space, and whether there is one.
func attribute(n api.Node, name string) (string, bool) {
	for _, a := range n.Attrs {
		if a.Space == "" && a.Name == name {
			return a.Value, true
		}
	}
	return "", false
}
