package etag_test

import (
	"fmt"
	"regexp"
	"slices"
	"strings"
	"testing"

	"broadsheet/api"
	"broadsheet/etag"
)

// What Q1 reads, as regular expressions. A byte that is no UTF-8 counts as a code point beyond 127 there.
const (
	tagForm   = `(?:W/)?"[^"\x00-\x20\x7F]*"`
	spaceForm = `[ \t]*`
	someForm  = `[ \t,]*` // space and commas, or nothing
)

var (
	starText = regexp.MustCompile(`\A` + spaceForm + `\*` + spaceForm + `\z`)
	listText = regexp.MustCompile(`\A` + someForm + tagForm + "(?:" + spaceForm + "," + someForm + tagForm + ")*" + someForm + `\z`)
	tagText  = regexp.MustCompile(`(W/)?"([^"]*)"`)
	oneText  = regexp.MustCompile(`\A` + tagForm + `\z`)
)

// listed is Q1 by regular expressions.
func listed(s string) ([]api.Tag, bool, api.Errno) {
	switch {
	case starText.MatchString(s):
		return nil, true, api.OK
	case !listText.MatchString(s):
		return nil, false, api.ErrETag
	}
	var l []api.Tag
	for _, x := range tagText.FindAllStringSubmatch(s, -1) {
		l = append(l, api.Tag{Weak: x[1] != "", Value: x[2]})
	}
	return l, false, api.OK
}

// printed is Q2 by regular expressions.
func printed(x api.Tag) (string, api.Errno) {
	s := map[bool]string{true: "W/"}[x.Weak] + `"` + x.Value + `"`
	if !oneText.MatchString(s) {
		return "", api.ErrETag
	}
	return s, api.OK
}

// has is Q3 word by word.
func has(l []api.Tag, star bool, x api.Tag, there, weak bool) bool {
	if !there {
		return false
	}
	if star {
		return true
	}
	for _, y := range l {
		if y.Value == x.Value && (weak || !y.Weak && !x.Weak) {
			return true
		}
	}
	return false
}

// may is Q4 word by word.
func may(match, none string, x api.Tag, there, get bool) int {
	l, star, e := listed(match)
	if match != "" && e != api.OK {
		return 400
	}
	if match != "" && !has(l, star, x, there, false) {
		return 412
	}
	l, star, e = listed(none)
	if none != "" && e != api.OK {
		return 400
	}
	if none == "" || !has(l, star, x, there, true) {
		return 0
	}
	if get {
		return 304
	}
	return 412
}

// strong is a tag that is not weak, and weak one that is.
func strong(value string) api.Tag { return api.Tag{Value: value} }

func weak(value string) api.Tag { return api.Tag{Weak: true, Value: value} }

// shown is a tag, or a list of them, as a failure tells it.
func shown(x any) string { return fmt.Sprintf("%.300q", fmt.Sprint(x)) }

// texts calls f with every text of up to n of the pieces, one behind the other, behind head.
func texts(head string, pieces []string, n int, f func(string)) {
	f(head)
	if n == 0 {
		return
	}
	for _, x := range pieces {
		texts(head+x, pieces, n-1, f)
	}
}

// answers fails unless List answers that.
func answers(t *testing.T, s string, want []api.Tag, star bool, number api.Errno) {
	t.Helper()
	if l, is, e := etag.List(s); !slices.Equal(l, want) || is != star || e != number {
		t.Fatalf("List %.80q (%d bytes): %s, %t, %d, not %s, %t, %d", s, len(s), shown(l), is, e, shown(want), star, number)
	}
}

// reads fails unless s is read as these tags.
func reads(t *testing.T, s string, want ...api.Tag) {
	t.Helper()
	answers(t, s, want, false, api.OK)
}

// readsStar fails unless each of l is read as a star.
func readsStar(t *testing.T, l ...string) {
	t.Helper()
	for _, s := range l {
		answers(t, s, nil, true, api.OK)
	}
}

// refuses fails unless each of l is no list: and nothing is told beside the error.
func refuses(t *testing.T, l ...string) {
	t.Helper()
	for _, s := range l {
		answers(t, s, nil, false, api.ErrETag)
	}
}

// agrees fails unless s is read as the model reads it.
func agrees(t *testing.T, s string) {
	t.Helper()
	want, star, number := listed(s)
	answers(t, s, want, star, number)
}

// prints fails unless that is what Print answers.
func prints(t *testing.T, x api.Tag, want string, number api.Errno) {
	t.Helper()
	if s, e := etag.Print(x); s != want || e != number {
		t.Fatalf("Print %s: %.80q, %d, not %.80q, %d", shown(x), s, e, want, number)
	}
}

// holds fails unless that is what Has answers, and the list is as it was, as is what stands behind its length.
func holds(t *testing.T, want bool, l []api.Tag, star bool, x api.Tag, there, weak bool) {
	t.Helper()
	handed := append(slices.Clip(l), strong("behind"), x)
	was := slices.Clone(handed)
	if got := etag.Has(handed[:len(l)], star, x, there, weak); got != want {
		t.Fatalf("Has %s, %t, %s, %t, %t: %t", shown(l), star, shown(x), there, weak, got)
	}
	if !slices.Equal(handed, was) {
		t.Fatalf("Has %s, %t, %s, %t, %t: the list is %s", shown(l), star, shown(x), there, weak, shown(handed))
	}
}

// says fails unless that is what May answers, and the model does.
func says(t *testing.T, want int, match, none string, x api.Tag, there, get bool) {
	t.Helper()
	if got := may(match, none, x, there, get); got != want {
		t.Fatalf("the model of May %.80q, %.80q, %s, %t, %t: %d, not %d", match, none, shown(x), there, get, got, want)
	}
	if got := etag.May(match, none, x, there, get); got != want {
		t.Fatalf("May %.80q, %.80q, %s, %t, %t: %d, not %d", match, none, shown(x), there, get, got, want)
	}
}

// joined is texts with a comma between each two.
func joined(l ...string) string { return strings.Join(l, ",") }
