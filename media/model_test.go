package media_test

import (
	"regexp"
	"slices"
	"strings"
	"testing"

	"broadsheet/api"
	"broadsheet/media"
)

// What M1 reads, as regular expressions.
const (
	tokenForm  = "[A-Za-z0-9!#$%&'*+\\-.^_`|~]+"
	spaceForm  = `[ \t]*`
	quotedForm = `"(?:[^"\\\x00-\x08\x0A-\x1F\x7F]|\\[^\x00-\x08\x0A-\x1F\x7F])*"`
	paramForm  = spaceForm + ";" + spaceForm + "(" + tokenForm + ")=(" + tokenForm + "|" + quotedForm + ")"
)

var (
	whole   = regexp.MustCompile(`\A` + spaceForm + "(" + tokenForm + ")/(" + tokenForm + ")((?:" + paramForm + ")*)" + spaceForm + `\z`)
	param   = regexp.MustCompile(paramForm)
	token   = regexp.MustCompile(`\A` + tokenForm + `\z`)
	escaped = regexp.MustCompile(`(?s)\\(.)`)
	capital = regexp.MustCompile(`[A-Z]`)
	special = regexp.MustCompile(`["\\]`)
)

// lowered is a text with letters A to Z made small.
func lowered(s string) string { return capital.ReplaceAllStringFunc(s, strings.ToLower) }

// parsed is M1 by regular expressions.
func parsed(s string) (api.Media, api.Errno) {
	l := whole.FindStringSubmatch(s)
	if l == nil || l[1] == "*" && l[2] != "*" {
		return api.Media{}, api.ErrMedia
	}
	m := api.Media{Type: lowered(l[1]), Sub: lowered(l[2])}
	for _, x := range param.FindAllStringSubmatch(l[3], -1) {
		value := x[2]
		if value[0] == '"' {
			value = escaped.ReplaceAllString(value[1:len(value)-1], "$1")
		}
		m.Params = append(m.Params, api.Pair{Name: lowered(x[1]), Value: value})
	}
	return m, api.OK
}

// parameter is M2: the place of the first parameter of that Name, or -1.
func parameter(m api.Media, name string) int {
	return slices.IndexFunc(m.Params, func(p api.Pair) bool { return p.Name == name })
}

// fits is M3, by the first parameter that m has not.
func fits(r, m api.Media) bool {
	missing := slices.IndexFunc(r.Params, func(p api.Pair) bool {
		at := parameter(m, p.Name)
		return p.Name != "q" && (at < 0 || lowered(m.Params[at].Value) != lowered(p.Value))
	})
	return slices.Contains([]string{"*", m.Type}, r.Type) && slices.Contains([]string{"*", m.Sub}, r.Sub) && missing < 0
}

// printed is M4 by regular expressions.
func printed(m api.Media) string {
	s := m.Type + "/" + m.Sub
	for _, p := range m.Params {
		value := p.Value
		if !token.MatchString(value) {
			value = `"` + special.ReplaceAllString(value, `\$0`) + `"`
		}
		s += "; " + p.Name + "=" + value
	}
	return s
}

// of is the media type of that Type and Sub, and of parameters, of which each is a Name and a Value.
func of(kind, sub string, params ...string) api.Media {
	m := api.Media{Type: kind, Sub: sub}
	for l := range slices.Chunk(params, 2) {
		m.Params = append(m.Params, api.Pair{Name: l[0], Value: l[1]})
	}
	return m
}

// same tells whether two are one: a list without elements may be nil or not.
func same(a, b api.Media) bool {
	return a.Type == b.Type && a.Sub == b.Sub && slices.Equal(a.Params, b.Params)
}

// texts calls f with every text of up to n of the pieces, one behind the other, behind head.
func texts(head string, pieces []string, n int, f func(string)) {
	f(head)
	if n == 0 {
		return
	}
	for _, x := range pieces {
		texts(head+x, pieces, n-1, f)
	}
}

// answers fails unless Parse answers that.
func answers(t *testing.T, s string, want api.Media, number api.Errno) {
	t.Helper()
	if got, e := media.Parse(s); !same(got, want) || e != number {
		t.Fatalf("Parse %.80q (%d bytes): %.80q, %d, not %.80q, %d", s, len(s), got, e, want, number)
	}
}

// reads fails unless s is read as that type, with these parameters.
func reads(t *testing.T, s, kind, sub string, params ...string) {
	t.Helper()
	answers(t, s, of(kind, sub, params...), api.OK)
}

// refuses fails unless each of l is no media type: and nothing is told beside the error.
func refuses(t *testing.T, l ...string) {
	t.Helper()
	for _, s := range l {
		answers(t, s, api.Media{}, api.ErrMedia)
	}
}

// agrees fails unless s is read as the model reads it.
func agrees(t *testing.T, s string) {
	t.Helper()
	want, number := parsed(s)
	answers(t, s, want, number)
}

// known is the media type that a good text tells.
func known(t *testing.T, s string) api.Media {
	t.Helper()
	m, e := media.Parse(s)
	if e != api.OK {
		t.Fatalf("Parse %q: %d", s, e)
	}
	return m
}
