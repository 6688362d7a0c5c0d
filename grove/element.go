package grove

import (
	"slices"

	"broadsheet/api"
	"broadsheet/prefix"
)

// An element is one that is open: its name as the tag has it, for the end-tag is to have the same; the scope that holds
// in it; and its node, as far as it has come.
type element struct {
	tag   string
	scope []api.Pair
	node  api.Node
}

// begin is the element that a start-tag opens where the outer scope holds.
func begin(outer []api.Pair, x api.Token) (element, api.Errno) {
	declared, rest, e := prefix.Declare(x.Attrs)
	if e != api.OK {
		return element{}, e
	}
	// Clipped, so that nothing is written behind the outer scope: what another element declares may stand there.
	scope := append(slices.Clip(outer), declared...)
	space, name, e := prefix.Resolve(scope, x.Name, false)
	if e != api.OK {
		return element{}, e
	}
	attrs, e := attributes(scope, rest)
	if e != api.OK {
		return element{}, e
	}
	node := api.Node{Kind: api.Elem, Space: space, Name: name, Attrs: attrs}
	return element{tag: x.Name, scope: scope, node: node}, api.OK
}

// attributes are a tag's attributes, but for those that declare, with their spaces.
func attributes(scope, rest []api.Pair) ([]api.Attr, api.Errno) {
	var told []api.Attr
	for _, a := range rest {
		space, name, e := prefix.Resolve(scope, a.Name, true)
		if e != api.OK {
			return nil, e
		}
		if has(told, space, name) {
			return nil, api.ErrDouble
		}
		told = append(told, api.Attr{Space: space, Name: name, Value: a.Value})
	}
	return told, api.OK
}

// has tells whether one of those attributes has that space and that name.
func has(l []api.Attr, space, name string) bool {
	for _, a := range l {
		if a.Space == space && a.Name == name {
			return true
		}
	}
	return false
}

// addText puts characters behind what the element has. They go on with a text that they stand beside.
func (x *element) addText(data string) {
	if data == "" {
		return
	}
	if n := len(x.node.Kids); n > 0 && x.node.Kids[n-1].Kind == api.Text {
		x.node.Kids[n-1].Data += data
		return
	}
	x.node.Kids = append(x.node.Kids, api.Node{Kind: api.Text, Data: data})
}
