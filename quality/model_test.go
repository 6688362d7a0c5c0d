package quality_test

import (
	"math"
	"regexp"
	"slices"
	"strconv"
	"strings"
	"testing"

	"broadsheet/api"
	"broadsheet/media"
	"broadsheet/quality"
)

var (
	weightForm = regexp.MustCompile(`\A[01](?:\.[0-9]{0,3})?\z`)
	// What stands behind an odd number of quotes, and the quotes about it: an end may be missing.
	quotedForm = regexp.MustCompile(`(?s)"(?:[^"\\]|\\.)*(?:"|\\?\z)`)
	spaceForm  = regexp.MustCompile(`\A[ \t]*\z`)
)

// weighed is N1 by a regular expression and Go's own library.
func weighed(s string) float64 {
	f, err := strconv.ParseFloat(s, 64)
	if !weightForm.MatchString(s) || err != nil || f > 1 {
		return math.NaN()
	}
	return f
}

// rank is N2 as one number for each float, the greater the further ahead: all NaN have one.
func rank(f float64) int {
	bits := math.Float64bits(f)
	size := int(bits &^ (1 << 63)) // rises as the number does, whatever its sign
	switch {
	case f != f:
		return math.MinInt
	case bits>>63 == 1:
		return -1 - size
	}
	return size
}

// clamped is N3 by the library's own words for it.
func clamped(f float64) float64 {
	if f != f {
		return 0
	}
	return math.Min(math.Max(f, 0), 1)
}

// splits is N4: what is quoted is covered, and then all commas that are left count.
func splits(s string) []string {
	covered := quotedForm.ReplaceAllStringFunc(s, func(q string) string { return strings.Repeat("x", len(q)) })
	var l []string
	at := 0
	for _, x := range strings.Split(covered, ",") {
		l = append(l, s[at:at+len(x)])
		at += len(x) + len(",")
	}
	return slices.DeleteFunc(l, spaceForm.MatchString)
}

// narrowness is how narrow N5 calls a range.
func narrowness(m api.Media) int {
	n := len(slices.DeleteFunc(slices.Clone(m.Params), func(p api.Pair) bool { return p.Name == "q" }))
	for _, x := range []string{m.Type, m.Sub} {
		if x != "*" {
			n += 100
		}
	}
	return n
}

// weight is N6: the weight of the first one of the ranges that m fits, the narrowest ones ahead.
func weight(s string, m api.Media) float64 {
	var l []api.Media
	for _, x := range splits(s) {
		if r, e := media.Parse(x); e == api.OK && media.Fits(r, m) {
			l = append(l, r)
		}
	}
	if len(l) == 0 {
		return 0
	}
	slices.SortStableFunc(l, func(a, b api.Media) int { return narrowness(b) - narrowness(a) })
	if q, has := media.Param(l[0], "q"); has {
		return clamped(weighed(q))
	}
	return 1
}

// best is N7: all weights, and then the first place of the greatest one.
func best(s string, have []api.Media) (int, float64) {
	l := []float64{0}
	for _, m := range have {
		l = append(l, weight(s, m))
	}
	greatest := slices.Max(l)
	return slices.Index(l, greatest) - 1, greatest // a 0 that stands ahead of all is the first one of 0
}

// same tells whether two floats are one, and not but equal; all NaN are one.
func same(a, b float64) bool {
	return math.Float64bits(a) == math.Float64bits(b) || a != a && b != b
}

// known is the media type that a good text tells.
func known(t *testing.T, s string) api.Media {
	t.Helper()
	m, e := media.Parse(s)
	if e != api.OK {
		t.Fatalf("%q is no media type: %d", s, e)
	}
	return m
}

// types are the media types that good texts tell.
func types(t *testing.T, l ...string) []api.Media {
	t.Helper()
	var have []api.Media
	for _, s := range l {
		have = append(have, known(t, s))
	}
	return have
}

// texts calls f with every text of up to n of the pieces, one behind the other, behind head.
func texts(head string, pieces []string, n int, f func(string)) {
	f(head)
	if n == 0 {
		return
	}
	for _, x := range pieces {
		texts(head+x, pieces, n-1, f)
	}
}

// floats are many: at the edges that the chapter names, next to them, and all over the rest.
func floats() []float64 {
	l := nans()
	for _, f := range []float64{
		0, math.SmallestNonzeroFloat64, 2 * math.SmallestNonzeroFloat64, 0x1p-1022, 0.001, 0.5, 0.999, 1, 1.001, 2, 1 << 53, math.MaxFloat64, math.Inf(1),
	} {
		for _, f := range []float64{f, math.Nextafter(f, math.Inf(1)), math.Nextafter(f, math.Inf(-1))} {
			l = append(l, f, -f)
		}
	}
	bits := uint64(1)
	for range 200 {
		bits = bits*6364136223846793005 + 1442695040888963407 // all exponents and both signs come up
		l = append(l, math.Float64frombits(bits))
	}
	return l
}

// nans are NaN of different bits.
func nans() []float64 {
	l := []float64{math.NaN()}
	for _, bits := range []uint64{0x7FF0000000000001, 0x7FF8000000000000, 0x7FFFFFFFFFFFFFFF, 0xFFF0000000000001, 0xFFF8000000000000, 0xFFFFFFFFFFFFFFFF} {
		l = append(l, math.Float64frombits(bits))
	}
	return l
}

// picks fails unless Best picks that place of have, at that weight.
func picks(t *testing.T, s string, have []api.Media, at int, weight float64) {
	t.Helper()
	if gotAt, got := quality.Best(s, have); gotAt != at || !same(got, weight) {
		t.Errorf("Best %.200q of %.200q: %d, %v, not %d, %v", s, have, gotAt, got, at, weight)
	}
}

// agrees fails unless Best picks what the model does.
func agrees(t *testing.T, s string, have []api.Media) {
	t.Helper()
	at, weight := best(s, have)
	picks(t, s, have, at, weight)
}
