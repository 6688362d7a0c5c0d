package press

import (
	"iter"

	"broadsheet/api"
	"broadsheet/atom"
)

// clients are the kids that are not the server's, in new memory, texts side by side made one.
func clients(kids []api.Node) []api.Node {
	var l, texts []api.Node
	for kid := range withoutServers(kids) {
		if kid.Kind == api.Text { // it waits for those that may follow
			texts = append(texts, kid)
			continue
		}
		l = append(append(l, joined(texts)...), kid)
		texts = nil
	}
	return append(l, joined(texts)...)
}

// withoutServers goes over the kids that are not the server's.
func withoutServers(kids []api.Node) iter.Seq[api.Node] {
	return func(yield func(api.Node) bool) {
		for _, kid := range kids {
			if !isServers(kid) && !yield(kid) {
				return
			}
		}
	}
}

// joined is texts that stand side by side, made one. One that stands alone is left as it is.
func joined(texts []api.Node) []api.Node {
	if len(texts) < 2 {
		return texts
	}
	return []api.Node{{Kind: api.Text, Data: atom.Text(api.Node{Kids: texts})}}
}

// isServers tells whether a kid of an entry is the server's to set.
func isServers(kid api.Node) bool {
	return isElement(kid, atomSpace, "id") || isElement(kid, protocolSpace, "edited") ||
		isElement(kid, atomSpace, "link") && isForEditing(kid)
}

// isForEditing tells whether a link is for edit or edit-media.
func isForEditing(link api.Node) bool {
	for _, a := range link.Attrs {
		if a.Space == "" && a.Name == "rel" { // the first one counts
			return a.Value == "edit" || a.Value == "edit-media"
		}
	}
	return false
}

// isElement tells whether n is an element of that space, with that name.
func isElement(n api.Node, space, name string) bool {
	return n.Kind == api.Elem && n.Space == space && n.Name == name
}
