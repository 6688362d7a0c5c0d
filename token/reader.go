package token

import (
	"strconv"
	"strings"

	"broadsheet/api"
	"broadsheet/glyph"
)

// spaces are the bytes that are space. No 13 is left where they are looked for, but the words have it.
const spaces = " \t\n\r"

// A reader goes through a text. What it takes, it leaves behind; where what it is to take is not there, it panics:
// so nothing of what was told so far is answered.
type reader struct{ rest string }

// wrong is what is panicked with: the number that is answered.
type wrong struct{ number api.Errno }

func (w wrong) Error() string { return "what stands there may not be: " + strconv.Itoa(int(w.number)) }

// insist panics unless what stands there is what is to stand there.
func insist(fits bool) {
	if !fits {
		panic(wrong{api.ErrTag})
	}
}

// outcome is a call's answer: what it told, or the number of what was thrown inside.
// Anything else that is thrown would be a fault of this package: it is not hidden.
func outcome(thrown any, told []api.Token) ([]api.Token, api.Errno) {
	if thrown == nil {
		return told, api.OK
	}
	if w, is := thrown.(wrong); is {
		return nil, w.number
	}
	panic(thrown)
}

// takes tells whether that text stands next; if so, it is taken.
func (r *reader) takes(text string) bool {
	rest, is := strings.CutPrefix(r.rest, text)
	r.rest = rest
	return is
}

// space tells whether space stands next; all of it is taken.
func (r *reader) space() bool {
	rest := strings.TrimLeft(r.rest, spaces)
	is := len(rest) < len(r.rest)
	r.rest = rest
	return is
}

// name is the name that stands next.
func (r *reader) name() string {
	name, rest, e := glyph.Name(r.rest)
	insist(e == api.OK)
	r.rest = rest
	return name
}

// upTo is all that stands ahead of the next such end, which is taken, too.
func (r *reader) upTo(end string) string {
	ahead, rest, found := strings.Cut(r.rest, end)
	insist(found)
	r.rest = rest
	return ahead
}

// given is what stands behind a name, an = and a quote, up to the next such quote.
func (r *reader) given() string {
	r.space()
	insist(r.takes("="))
	r.space()
	if r.takes(`"`) {
		return r.upTo(`"`)
	}
	insist(r.takes("'"))
	return r.upTo("'")
}
