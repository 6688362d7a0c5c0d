package quality_test

import (
	"math"
	"strings"
	"testing"

	"broadsheet/api"
	"broadsheet/media"
	"broadsheet/quality"
)

func TestOneOrder(t *testing.T) { // N8: of two floats one is ahead of the other, unless they are the same or NaN
	for _, a := range floats() {
		for _, b := range floats() {
			one, other := quality.Ahead(a, b), quality.Ahead(b, a)
			if one && other || !one && !other && !same(a, b) || same(a, b) && (one || other) {
				t.Errorf("%v and %v: %t, %t", a, b, one, other)
			}
		}
	}
}

func TestOrderOfNegatives(t *testing.T) { // N8: and it is turned round by a sign, but for NaN
	for _, a := range floats() {
		for _, b := range floats() {
			if a == a && b == b && quality.Ahead(a, b) != quality.Ahead(-b, -a) {
				t.Errorf("%v and %v", a, b)
			}
		}
	}
}

func TestClampedIsWithin(t *testing.T) { // N8: from 0 to 1, no NaN, no nought below 0; and in the order that there was
	for _, a := range floats() {
		f := quality.Clamp(a)
		if !(f >= 0 && f <= 1) || math.Signbit(f) {
			t.Errorf("Clamp %v: %v", a, f)
		}
		if !same(quality.Clamp(f), f) {
			t.Errorf("Clamp %v: %v, and again: %v", a, f, quality.Clamp(f))
		}
		for _, b := range floats() {
			if quality.Ahead(f, quality.Clamp(b)) && !quality.Ahead(a, b) {
				t.Errorf("%v and %v", a, b)
			}
		}
	}
}

func TestARangeMore(t *testing.T) { // N8: that no type fits, wherever it is put, changes nothing
	ranges := []string{"*/*;q=0.3", "a/*;q=0.5", "a/b;q=0.4", "a/b;c=1;q=0.9", "e/b", "e/*;q=0", "a/d;q=x", "*/*;c=1", "", "x", "a/b;q=0.9;q=0.1"}
	more := []string{"a/b;c=2", "a/*;g=1;q=0.999", "e/d", "*/*;c=1;f=3", "x/*", "x/y;q=2", "e/b;h=\",\\\",\"", "a/b;c=1;d=1", "x/y;q=0", "e/b;c=1;q=x", " A/X "}
	lists := [][]api.Media{nil, types(t, "a/b"), types(t, "a/b", "a/b;c=1", "a/d", "e/b"), types(t, "e/b", "a/d;f=2", "a/b;c=1;f=2")}
	count := 0
	for _, have := range lists {
		for _, x := range more {
			if fitsAny(known(t, x), have) {
				continue
			}
			for _, a := range ranges {
				for _, b := range ranges {
					at, weight := quality.Best(a+","+b, have)
					for _, l := range [][]string{{x, a, b}, {a, x, b}, {a, b, x}, {x, a, x, b, x}} {
						picks(t, strings.Join(l, ","), have, at, weight)
						count++
					}
				}
			}
		}
	}
	if count < 10000 {
		t.Errorf("%d texts alone", count)
	}
}

// fitsAny tells whether a type of have fits a range.
func fitsAny(r api.Media, have []api.Media) bool {
	for _, m := range have {
		if media.Fits(r, m) {
			return true
		}
	}
	return false
}

func TestTheBestIsTheGreatest(t *testing.T) { // N7, N8: no type alone weighs more, and none ahead of it as much
	have := types(t, "a/b", "a/d", "a/b;c=1", "e/b", "a/b")
	l := []string{"*/*;q=0.3", "a/*;q=0.5", "a/b;q=0.4", "a/b;c=1;q=0.9", "e/b;q=0.5", "a/d;q=0", "x;q=1", "e/*;q=0.001"}
	for _, a := range l {
		for _, b := range l {
			for _, c := range l {
				s := a + "," + b + "," + c
				at, weight := quality.Best(s, have)
				for i := range have {
					_, w := quality.Best(s, have[i:i+1])
					if quality.Ahead(w, weight) || i < at && w == weight || i == at && !same(w, weight) {
						t.Fatalf("Best %q: %d, %v; but %d alone: %v", s, at, weight, i, w)
					}
				}
			}
		}
	}
}
