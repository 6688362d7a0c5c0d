package media

import (
	"strings"

	"broadsheet/api"
)

// tokenBytes are the bytes that tokens are made of.
const tokenBytes = "ABCDEFGHIJKLMNOPQRSTUVWXYZabcdefghijklmnopqrstuvwxyz0123456789!#$%&'*+-.^_`|~"

// spaces are the bytes that space is made of.
const spaces = " \t"

// A text is what is yet to be parsed: methods take off its head what they tell. Once one of them tells that
// something is not so, what is left means nothing.
type text string

// kind is the Type and the Sub that stand next, and whether they do.
func (t *text) kind() (m api.Media, is bool) {
	t.space()
	m.Type = small(t.token())
	parted := t.takes('/')
	m.Sub = small(t.token())
	return m, m.Type != "" && parted && m.Sub != "" && (m.Type != star || m.Sub == star)
}

// param is the parameter that stands next, and whether one does.
func (t *text) param() (p api.Pair, is bool) {
	begins := t.takes(';')
	t.space()
	p.Name = small(t.token())
	parted := t.takes('=')
	value, has := t.value()
	p.Value = value
	return p, begins && p.Name != "" && parted && has
}

// value is the token, or what is quoted, that stands next, and whether one of them does.
func (t *text) value() (s string, is bool) {
	if t.takes('"') {
		return t.quoted()
	}
	s = t.token()
	return s, s != ""
}

// quoted is what stands ahead of the quote that ends it, and whether there is one.
func (t *text) quoted() (s string, ends bool) {
	var b []byte
	for !t.takes('"') {
		t.takes('\\') // what stands behind it is no end, and no other such
		c, is := t.quotable()
		if !is {
			return "", false
		}
		b = append(b, c)
	}
	return string(b), true
}

// quotable is the byte that stands next, and whether there is one that may be quoted.
func (t *text) quotable() (c byte, is bool) {
	if *t == "" {
		return 0, false
	}
	c = (*t)[0]
	*t = (*t)[1:]
	return c, c >= ' ' && c != 127 || c == '\t'
}

// token is the token that stands next. It is empty if there is none.
func (t *text) token() string {
	all := string(*t)
	rest := strings.TrimLeft(all, tokenBytes)
	*t = text(rest)
	return all[:len(all)-len(rest)]
}

// space takes the space that stands next, if there is any.
func (t *text) space() {
	*t = text(strings.TrimLeft(string(*t), spaces))
}

// takes tells whether that byte stands next; if so, it is taken.
func (t *text) takes(c byte) bool {
	if *t == "" || (*t)[0] != c {
		return false
	}
	*t = (*t)[1:]
	return true
}
