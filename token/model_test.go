package token_test

import (
	"regexp"
	"strings"

	"broadsheet/api"
	"broadsheet/escape"
	"broadsheet/glyph"
)

// What the chapter's words say stands there, each at the head of a text.
const (
	space  = `[\x20\x09\x0a\x0d]`
	start  = `:A-Z_a-z\xC0-\xD6\xD8-\xF6\xF8-\x{2FF}\x{370}-\x{37D}\x{37F}-\x{1FFF}\x{200C}\x{200D}\x{2070}-\x{218F}\x{2C00}-\x{2FEF}\x{3001}-\x{D7FF}\x{F900}-\x{FDCF}\x{FDF0}-\x{FFFD}\x{10000}-\x{EFFFF}`
	name   = `[` + start + `][` + start + `\-.0-9\xB7\x{300}-\x{36F}\x{203F}\x{2040}]*`
	equals = space + `*=` + space + `*`
)

var (
	isDecl = regexp.MustCompile(`^<\?xml` + space)
	decl   = regexp.MustCompile(`^<\?xml` + space + `+version` + equals + `("1\.[0-9]+"|'1\.[0-9]+')` +
		`(` + space + `+encoding` + equals + `("[Uu][Tt][Ff]-8"|'[Uu][Tt][Ff]-8'))?` +
		`(` + space + `+standalone` + equals + `("(yes|no)"|'(yes|no)'))?` + space + `*\?>`)
	instr  = regexp.MustCompile(`(?s)^<\?(` + name + `)(?:|` + space + `+(|[^\x20\x09\x0a\x0d].*?))\?>`)
	isXML  = regexp.MustCompile(`^[xX][mM][lL]$`)
	endTag = regexp.MustCompile(`^</(` + name + `)` + space + `*>`)
	begun  = regexp.MustCompile(`^<(` + name + `)`)
	attr   = regexp.MustCompile(`^` + space + `+(` + name + `)` + equals + `(?:"([^"<]*)"|'([^'<]*)')`)
	closed = regexp.MustCompile(`^` + space + `*(/?)>`)
	ends   = regexp.MustCompile(`\r\n?`)
)

// tokens is G1 word by word.
func tokens(s string) ([]api.Token, api.Errno) {
	if len(s) > 100000 {
		return nil, api.ErrLong
	}
	if glyph.Check(s) != api.OK {
		return nil, api.ErrUTF8
	}
	var told []api.Token
	s = ends.ReplaceAllString(s, "\n")
	for head := true; s != ""; head = false {
		x, rest, e := token1(s, head)
		if e != api.OK {
			return nil, e
		}
		told, s = append(told, x), rest
	}
	return told, api.OK
}

// token1 is the first token of s, and what stands behind it.
func token1(s string, head bool) (x api.Token, rest string, e api.Errno) {
	switch {
	case head && isDecl.MatchString(s):
		if m := decl.FindString(s); m != "" {
			return api.Token{Kind: 5}, s[len(m):], api.OK
		}
	case strings.HasPrefix(s, "<!--"):
		if n := strings.Index(s[4:], "--"); n >= 0 && strings.HasPrefix(s[4+n:], "-->") {
			return api.Token{Kind: 3, Data: s[4 : 4+n]}, s[4+n+3:], api.OK
		}
	case strings.HasPrefix(s, "<![CDATA["):
		if n := strings.Index(s[9:], "]]>"); n >= 0 {
			return api.Token{Kind: 2, Data: s[9 : 9+n], Alone: true}, s[9+n+3:], api.OK
		}
	case strings.HasPrefix(s, "<!DOCTYPE"):
		return x, "", api.ErrType
	case strings.HasPrefix(s, "<!"):
	case strings.HasPrefix(s, "<?"):
		if m := instr.FindStringSubmatch(s); m != nil && !isXML.MatchString(m[1]) {
			return api.Token{Kind: 4, Name: m[1], Data: m[2]}, s[len(m[0]):], api.OK
		}
	case strings.HasPrefix(s, "</"):
		if m := endTag.FindStringSubmatch(s); m != nil {
			return api.Token{Kind: 1, Name: m[1]}, s[len(m[0]):], api.OK
		}
	case strings.HasPrefix(s, "<"):
		return startTag(s)
	default:
		return characters(s)
	}
	return x, "", api.ErrTag
}

// startTag is the start-tag at the head of s, gone through from the left.
func startTag(s string) (x api.Token, rest string, e api.Errno) {
	m := begun.FindStringSubmatch(s)
	if m == nil {
		return x, "", api.ErrTag
	}
	x.Name, s = m[1], s[len(m[0]):]
	for m = attr.FindStringSubmatch(s); m != nil; m = attr.FindStringSubmatch(s) {
		value, e := escape.Value(m[2] + m[3])
		if e != api.OK {
			return api.Token{}, "", e
		}
		for _, a := range x.Attrs {
			if a.Name == m[1] {
				return api.Token{}, "", api.ErrDouble
			}
		}
		x.Attrs, s = append(x.Attrs, api.Pair{Name: m[1], Value: value}), s[len(m[0]):]
	}
	if m = closed.FindStringSubmatch(s); m == nil {
		return api.Token{}, "", api.ErrTag
	}
	x.Alone = m[1] == "/"
	return x, s[len(m[0]):], api.OK
}

// characters is the characters at the head of s.
func characters(s string) (x api.Token, rest string, e api.Errno) {
	n := strings.Index(s+"<", "<")
	if strings.Contains(s[:n], "]]>") {
		return x, "", api.ErrTag
	}
	data, e := escape.Expand(s[:n])
	if e != api.OK {
		return x, "", e
	}
	return api.Token{Kind: 2, Data: data, Alone: strings.Contains(s[:n], "&")}, s[n:], api.OK
}

// texts calls f with every text of up to n of the pieces, one behind the other.
func texts(pieces []string, n int, f func(string)) {
	told("", pieces, n, f)
}

func told(s string, pieces []string, n int, f func(string)) {
	f(s)
	if n == 0 {
		return
	}
	for _, x := range pieces {
		told(s+x, pieces, n-1, f)
	}
}
