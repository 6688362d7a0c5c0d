package quality

import (
	"broadsheet/api"
	"broadsheet/media"
)

const (
	star      = "*" // fits each Type, or each Sub
	weighs    = "q" // the parameter that tells a range's weight
	namesPart = 100 // how much narrower a range is by its Type, or by its Sub
)

// A wish is a range, how much it weighs (NaN, if that is not told as it may be), and how narrow it is.
type wish struct {
	span   api.Media
	weight float64
	narrow int
}

// wishes are the ranges that s tells, in order.
func wishes(s string) []wish {
	var l []wish
	for _, piece := range Split(s) {
		if m, e := media.Parse(piece); e == api.OK {
			l = append(l, wish{m, weightIn(m), narrowness(m)})
		}
	}
	return l
}

// weightIn is the weight that a range tells of itself.
func weightIn(m api.Media) float64 {
	if s, has := media.Param(m, weighs); has {
		return Weight(s)
	}
	return 1
}

// narrowness is how narrow a range is.
func narrowness(m api.Media) int {
	n := 0
	if m.Type != star {
		n += namesPart
	}
	if m.Sub != star {
		n += namesPart
	}
	for _, p := range m.Params {
		if p.Name != weighs {
			n++
		}
	}
	return n
}

// weightOf is the weight of m by the narrowest of l that it fits.
func weightOf(m api.Media, l []wish) float64 {
	narrow, weight := -1, 0.0
	for _, w := range l {
		if w.narrow > narrow && media.Fits(w.span, m) {
			narrow, weight = w.narrow, w.weight
		}
	}
	return Clamp(weight)
}
