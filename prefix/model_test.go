package prefix_test

import (
	"regexp"
	"unicode/utf8"

	"broadsheet/api"
)

// The spaces, as the chapter tells them.
const (
	xmls   = "http://www.w3.org/XML/1998/namespace"
	xmlnss = "http://www.w3.org/2000/xmlns/"
)

// What E1 says may begin a name, and stand in it, but for the colon.
const (
	start = `A-Z_a-z\xC0-\xD6\xD8-\xF6\xF8-\x{2FF}\x{370}-\x{37D}\x{37F}-\x{1FFF}\x{200C}\x{200D}\x{2070}-\x{218F}\x{2C00}-\x{2FEF}\x{3001}-\x{D7FF}\x{F900}-\x{FDCF}\x{FDF0}-\x{FFFD}\x{10000}-\x{EFFFF}`
	part  = start + `\-.0-9\xB7\x{300}-\x{36F}\x{203F}\x{2040}`
	plain = `[` + start + `][` + part + `]*`
)

var parts = regexp.MustCompile(`\A(?:(` + plain + `):)?(` + plain + `)\z`)

// split is H1 word by word.
func split(s string) (prefix, local string, e api.Errno) {
	m := parts.FindStringSubmatch(s)
	if m == nil || !utf8.ValidString(s) {
		return "", "", api.ErrPrefix
	}
	return m[1], m[2], api.OK
}

// declare is H2 word by word.
func declare(l []api.Pair) (scope, rest []api.Pair, e api.Errno) {
	for _, a := range l {
		ahead, local, e := split(a.Name)
		if e != api.OK {
			return nil, nil, e
		}
		if ahead != "xmlns" && a.Name != "xmlns" {
			rest = append(rest, a)
			continue
		}
		if ahead == "" {
			local = ""
		}
		if !may(local, a.Value) {
			return nil, nil, api.ErrPrefix
		}
		scope = append(scope, api.Pair{Name: local, Value: a.Value})
	}
	return scope, rest, api.OK
}

// may tells whether the prefix may be declared so.
func may(prefix, space string) bool {
	if prefix == "xmlns" {
		return false
	}
	if prefix == "xml" {
		return space == xmls
	}
	if space == xmls || space == xmlnss {
		return false
	}
	return space != "" || prefix == ""
}

// resolve is H3 word by word.
func resolve(scope []api.Pair, s string, attr bool) (space, local string, e api.Errno) {
	ahead, local, e := split(s)
	if e != api.OK {
		return "", "", e
	}
	if ahead == "xml" {
		return xmls, local, api.OK
	}
	if ahead == "xmlns" {
		return "", "", api.ErrPrefix
	}
	if ahead == "" && attr {
		return "", local, api.OK
	}
	is := false
	for _, b := range scope {
		if b.Name == ahead {
			space, is = b.Value, true
		}
	}
	if !is && ahead == "" {
		return "", local, api.OK
	}
	if !is || ahead != "" && space == "" {
		return "", "", api.ErrPrefix
	}
	return space, local, api.OK
}

// texts calls f with every text of up to n of the pieces, one behind the other.
func texts(pieces []string, n int, f func(string)) {
	told("", pieces, n, f)
}

func told(s string, pieces []string, n int, f func(string)) {
	f(s)
	if n == 0 {
		return
	}
	for _, x := range pieces {
		told(s+x, pieces, n-1, f)
	}
}

// lists calls f with every list of up to n of the pairs. The list is f's only while it is called.
func lists(pairs []api.Pair, n int, f func([]api.Pair)) {
	laid(make([]api.Pair, 0, n), pairs, n, f)
}

func laid(l, pairs []api.Pair, n int, f func([]api.Pair)) {
	f(l)
	if n == 0 {
		return
	}
	for _, x := range pairs {
		laid(append(l, x), pairs, n-1, f)
	}
}

// pairs are names and values, in turn.
func pairs(l ...string) []api.Pair {
	var told []api.Pair
	for i := 0; i < len(l); i += 2 {
		told = append(told, api.Pair{Name: l[i], Value: l[i+1]})
	}
	return told
}

// each is every one of the names with every one of the values.
func each(names, values []string) []api.Pair {
	var told []api.Pair
	for _, n := range names {
		for _, v := range values {
			told = append(told, api.Pair{Name: n, Value: v})
		}
	}
	return told
}
