package etag

import (
	"broadsheet/api"
	"broadsheet/media"
)

// isStar tells whether a text is a star, and space about it.
func isStar(t media.Text) bool {
	t.Space()
	is := t.Takes('*')
	t.Space()
	return is && t == ""
}

// commas takes the commas that stand next, and the space about them. It tells whether there is one.
func commas(t *media.Text) (is bool) {
	for t.Space(); t.Takes(','); t.Space() {
		is = true
	}
	return is
}

// tag is the tag that stands next, and whether one does.
func tag(t *media.Text) (one api.Tag, is bool) {
	one.Weak = t.Takes('W')
	begins := (!one.Weak || t.Takes('/')) && t.Takes('"')
	one.Value = value(t)
	return one, begins && t.Takes('"')
}

// value is the bytes that stand next of which a Value may be made.
func value(t *media.Text) string {
	all, n := string(*t), 0
	for n < len(all) && isOfValue(all[n]) {
		n++
	}
	*t = media.Text(all[n:])
	return all[:n]
}

// isOfValue tells whether a byte may stand in a Value.
func isOfValue(c byte) bool {
	return c > ' ' && c != '"' && c != 127
}
