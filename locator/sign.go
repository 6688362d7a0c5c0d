package locator

import (
	"strings"

	"broadsheet/api"
)

// marks are the signs that are neither letters nor digits, nor above 127, nor begin with a percent sign.
const marks = "-._~!$&'()*+,;=:@"

// isReference tells whether each part of u is of what may stand in it.
func isReference(u api.URI) bool {
	return (!u.HasScheme || isScheme(u.Scheme)) && isOfSigns(u.Host, "[]") && isOfSigns(u.Path, "/") &&
		isOfSigns(u.Query, "/?") && isOfSigns(u.Frag, "/?")
}

func isScheme(s string) bool {
	for i, c := range []byte(s) {
		if !isLetter(c) && (i == 0 || !isDigit(c) && !isOneOf(c, "+-.")) {
			return false
		}
	}
	return s != ""
}

// isOfSigns tells whether s has nothing but signs, and bytes of more.
func isOfSigns(s, more string) bool {
	for i, c := range []byte(s) {
		if c == '%' && !isHexPair(s[i+1:]) || c != '%' && !isSign(c) && !isOneOf(c, more) {
			return false
		}
	}
	return true
}

// isHexPair tells whether s begins with two digits of the base 16: they are signs of their own, too.
func isHexPair(s string) bool {
	return len(s) >= 2 && isHex(s[0]) && isHex(s[1])
}

// isSign tells whether c alone is a sign.
func isSign(c byte) bool {
	return isLetter(c) || isDigit(c) || c > 127 || isOneOf(c, marks)
}

func isHex(c byte) bool {
	return isDigit(c) || 'A' <= c && c <= 'F' || 'a' <= c && c <= 'f'
}

func isLetter(c byte) bool {
	return 'A' <= c && c <= 'Z' || 'a' <= c && c <= 'z'
}

func isDigit(c byte) bool {
	return '0' <= c && c <= '9'
}

func isOneOf(c byte, l string) bool {
	return strings.IndexByte(l, c) >= 0
}
