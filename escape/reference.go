package escape

import (
	"errors"
	"strconv"
	"strings"

	"broadsheet/api"
	"broadsheet/glyph"
)

var errNoReference = errors.New("what begins as a reference is none")

// none is a number that no reference may have.
const none = 0

// expand is s with what they are in the place of all references, and what becomes of it in the place of the rest.
func expand(s string, becomes func(rest string) string) (told string, e api.Errno) {
	defer func() { told, e = outcome(recover(), told) }()
	var b strings.Builder
	for {
		rest, ref, found := strings.Cut(s, "&")
		b.WriteString(becomes(rest))
		if !found {
			return b.String(), api.OK
		}
		c, behind := first(ref)
		b.WriteRune(c)
		s = behind
	}
}

// outcome is a call's answer: what it told, or the one to what was thrown inside.
// Anything but a reference that is none would be a fault of this package: it is not hidden.
func outcome(thrown any, told string) (string, api.Errno) {
	if thrown == nil {
		return told, api.OK
	}
	if err, ok := thrown.(error); ok && errors.Is(err, errNoReference) {
		return "", api.ErrRef
	}
	panic(thrown)
}

// first is what the reference is whose & stands ahead of s, and what stands behind it.
// It panics where there is none: so nothing of what is told so far is answered.
func first(s string) (c rune, behind string) {
	ref, behind, ended := strings.Cut(s, ";")
	n := point(ref)
	if !ended || !glyph.Char(n) {
		panic(errNoReference)
	}
	return rune(n), behind
}

// point is the number that stands for a reference, as it is between & and ;.
func point(ref string) int {
	digits, isNumber := strings.CutPrefix(ref, "#")
	if !isNumber {
		return int(names()[ref]) // none, if it is no name
	}
	if hex, is := strings.CutPrefix(digits, "x"); is {
		return number(hex, 16)
	}
	return number(digits, 10)
}

func names() map[string]rune {
	return map[string]rune{"lt": '<', "gt": '>', "amp": '&', "quot": '"', "apos": '\''}
}

// number is what digits say, or none, if they are not digits alone, or say more than any code point.
func number(digits string, base int) int {
	n, err := strconv.ParseUint(digits, base, 32) // ParseInt would take a sign
	if err != nil {
		return none
	}
	return int(n)
}
