package token

import (
	"strings"

	"broadsheet/api"
)

// opening is what a declaration begins with; space stands behind it.
const opening = "<?xml"

// isAtDeclaration tells whether what stands next is a declaration, or else an error, at a document's very head.
func (r *reader) isAtDeclaration() bool {
	rest, is := strings.CutPrefix(r.rest, opening)
	return is && rest != "" && strings.IndexByte(spaces, rest[0]) >= 0
}

// declaration is the declaration that stands next. There is one order for its parts.
func (r *reader) declaration() api.Token {
	insist(r.takes(opening) && r.space() && r.takes("version"))
	insist(isVersion(r.given()))
	spaced := r.space()
	if spaced && r.takes("encoding") {
		insist(strings.EqualFold(r.given(), "UTF-8"))
		spaced = r.space()
	}
	if spaced && r.takes("standalone") {
		alone := r.given()
		insist(alone == "yes" || alone == "no")
		r.space()
	}
	insist(r.takes("?>"))
	return api.Token{Kind: api.Decl}
}

// isVersion tells whether s is `1.` and one digit or more.
func isVersion(s string) bool {
	digits, is := strings.CutPrefix(s, "1.")
	return is && digits != "" && strings.Trim(digits, "0123456789") == ""
}
