package media

import (
	"strings"

	"broadsheet/api"
)

// tokenBytes are the bytes that tokens are made of.
const tokenBytes = "ABCDEFGHIJKLMNOPQRSTUVWXYZabcdefghijklmnopqrstuvwxyz0123456789!#$%&'*+-.^_`|~"

// spaces are the bytes that space is made of.
const spaces = " \t"

// A Text is what is yet to be parsed: methods take off its head what they tell. Once one of them tells that
// something is not so, what is left means nothing. Layer 17 parses by it, too.
type Text string

// kind is the Type and the Sub that stand next, and whether they do.
func (t *Text) kind() (m api.Media, is bool) {
	t.Space()
	m.Type = small(t.token())
	parted := t.Takes('/')
	m.Sub = small(t.token())
	return m, m.Type != "" && parted && m.Sub != "" && (m.Type != star || m.Sub == star)
}

// param is the parameter that stands next, and whether one does.
func (t *Text) param() (p api.Pair, is bool) {
	begins := t.Takes(';')
	t.Space()
	p.Name = small(t.token())
	parted := t.Takes('=')
	value, has := t.value()
	p.Value = value
	return p, begins && p.Name != "" && parted && has
}

// value is the token, or what is quoted, that stands next, and whether one of them does.
func (t *Text) value() (s string, is bool) {
	if t.Takes('"') {
		return t.quoted()
	}
	s = t.token()
	return s, s != ""
}

// quoted is what stands ahead of the quote that ends it, and whether there is one.
func (t *Text) quoted() (s string, ends bool) {
	var b []byte
	for !t.Takes('"') {
		t.Takes('\\') // what stands behind it is no end, and no other such
		c, is := t.quotable()
		if !is {
			return "", false
		}
		b = append(b, c)
	}
	return string(b), true
}

// quotable is the byte that stands next, and whether there is one that may be quoted.
func (t *Text) quotable() (c byte, is bool) {
	if *t == "" {
		return 0, false
	}
	c = (*t)[0]
	*t = (*t)[1:]
	return c, c >= ' ' && c != 127 || c == '\t'
}

// token is the token that stands next. It is empty if there is none.
func (t *Text) token() string {
	all := string(*t)
	rest := strings.TrimLeft(all, tokenBytes)
	*t = Text(rest)
	return all[:len(all)-len(rest)]
}

// Space takes the space that stands next, if there is any.
func (t *Text) Space() {
	*t = Text(strings.TrimLeft(string(*t), spaces))
}

// Takes tells whether that byte stands next; if so, it is taken.
func (t *Text) Takes(c byte) bool {
	if *t == "" || (*t)[0] != c {
		return false
	}
	*t = (*t)[1:]
	return true
}
