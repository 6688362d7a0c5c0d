package quality_test

import (
	"math"
	"slices"
	"strconv"
	"strings"
	"testing"

	"broadsheet/quality"
)

// weighs fails unless each of l is told as that weight.
func weighs(t *testing.T, want float64, l ...string) {
	t.Helper()
	for _, s := range l {
		if got := quality.Weight(s); !same(got, want) {
			t.Errorf("Weight %.80q: %v, not %v", s, got, want)
		}
	}
}

// weighsNothing fails unless each of l is no weight.
func weighsNothing(t *testing.T, l ...string) {
	t.Helper()
	weighs(t, math.NaN(), l...)
}

func TestWeight(t *testing.T) { // N1: with and without a point, and with no to four digits behind it
	weighs(t, 0, "0", "0.", "0.0", "0.00", "0.000")
	weighs(t, 1, "1", "1.", "1.0", "1.00", "1.000")
	weighs(t, 0.5, "0.5", "0.50", "0.500")
	weighs(t, 0.25, "0.25", "0.250")
	weighs(t, 0.1, "0.1", "0.10", "0.100")
	weighs(t, 0.01, "0.01", "0.010")
	weighs(t, 0.001, "0.001")
	weighs(t, 0.123, "0.123")
	weighs(t, 0.9, "0.9", "0.90", "0.900")
	weighs(t, 0.999, "0.999")
	weighsNothing(t, "0.0000", "1.0000", "0.5000", "0.1234", "0.9999", "1.1234", "0.00000", "00.000", "01", "10", "11", "00", "000", "0000", "1000", "0000.5")
	weighsNothing(t, "1.001", "1.01", "1.1", "1.5", "1.9", "1.999", "2", "2.", "2.0", "9", "0.001.", "3.5", "5", "05", "0005", "0500", "10.0")
}

func TestEachThousandth(t *testing.T) { // N1: each is the float64 that so many of them are
	for n := range 10000 {
		digits := strconv.Itoa(10000 + n)[2:]
		s := strconv.Itoa(n/1000) + "." + digits
		if n > 1000 {
			weighsNothing(t, s, strings.TrimRight(s, "0"))
			continue
		}
		want, err := strconv.ParseFloat(s, 64)
		if err != nil || want != float64(n)/1000 {
			t.Fatalf("%s: %v, %v", s, want, err)
		}
		weighs(t, want, s)
		for strings.HasSuffix(s, "0") {
			s = s[:len(s)-1]
			weighs(t, want, s)
		}
	}
}

func TestNoWeight(t *testing.T) { // N1: with a blank, a sign, a digit, a letter or a point too many, or without anything
	weighsNothing(t, "", " ", ".", "..", ".0", ".5", ".000", "0..", "0..5", "0.5.", "0.5.5", "1..", "1.0.", "1.0.0", "0.0.0", ".1.", "...")
	for _, s := range []string{"0", "1", "0.", "1.", "0.5", "0.25", "1.0", "1.00", "0.125", "1.000"} {
		for _, x := range []string{" ", "\t", "\n", "\r", "\v", "\f", "\x00", "\x7f", "\x80", "\xff", "+", "-", "x", "X", "e", "E", "e0", "_", "p", "%", "\"", ";", ",", "²", "٠", "\u00A0", "\uFEFF", "０"} {
			weighsNothing(t, x+s, s+x, s[:1]+x+s[1:], s[:len(s)-1]+x)
		}
		weighsNothing(t, "0"+s, "1"+s, "2"+s, "9"+s, s+"."+s+".", "\""+s+"\"", "'"+s+"'", "0x"+s, "0b"+s, "0o"+s)
	}
	weighsNothing(t, "0,5", "0:5", "0/5", "0.+5", "0.-5", "0.-0", "0.+", "0. 5", "0 .5", "0.5 ", "0.x", "0.0x1", "0.1e1", "0.1_", "0._1", "0.1_1", "0_0", "0_", "1e0", "1E0", "0e0", "0x0", "0x1", "NaN", "nan", "Inf", "inf", "+Inf", "-0", "-1", "+0", "+1", "0.٥", "0.５", "½", "one", "q")
}

func TestEachByteOfAWeight(t *testing.T) { // N1: put into a good text at each place, and instead of each byte
	for _, s := range []string{"", "0", "1", "0.", "1.", "0.5", "1.0", "0.25", "0.125", "1.000"} {
		for at := range len(s) + 1 {
			for c := range 256 {
				x := string([]byte{byte(c)})
				in := s[:at] + x + s[at:]
				weighs(t, weighed(in), in)
				if at < len(s) {
					instead := s[:at] + x + s[at+1:]
					weighs(t, weighed(instead), instead)
				}
			}
		}
	}
}

func TestEachWeight(t *testing.T) { // N1: of a few good and bad pieces
	check := func(s string) { weighs(t, weighed(s), s) }
	texts("", []string{"0", "1", "2", ".", "5", "9", "-", "+", " ", "e", "_"}, 5, check)
	texts("", []string{"0", "1", "."}, 9, check)
	for _, n := range []int{1000, 100000} {
		x := strings.Repeat("0", n)
		weighsNothing(t, x, "0."+x, "1."+x, x+".5", strings.Repeat(".", n), "0."+strings.Repeat(".", n), "0.5"+x, "1"+x)
	}
}

func TestAhead(t *testing.T) { // N2: as the chapter tells the order
	in := []float64{
		math.Inf(1), math.MaxFloat64, 2, math.Nextafter(1, 2), 1, math.Nextafter(1, 0), 0.5, 0x1p-1022, math.SmallestNonzeroFloat64, 0, math.Copysign(0, -1),
		-math.SmallestNonzeroFloat64, -0x1p-1022, -0.5, -math.Nextafter(1, 0), -1, -math.Nextafter(1, 2), -2, -math.MaxFloat64, math.Inf(-1), math.NaN(),
	}
	for i, a := range in {
		for k, b := range in {
			if got := quality.Ahead(a, b); got != (i < k) {
				t.Errorf("Ahead %v, %v: %t", a, b, got)
			}
		}
	}
}

func TestAheadOfNaN(t *testing.T) { // N2: no NaN is ahead of anything, all else is ahead of each
	for _, a := range nans() {
		for _, b := range nans() {
			if quality.Ahead(a, b) {
				t.Errorf("%x is ahead of %x", math.Float64bits(a), math.Float64bits(b))
			}
		}
		for _, f := range floats() {
			if quality.Ahead(a, f) || quality.Ahead(f, a) != (f == f) {
				t.Errorf("%x and %v: %t, %t", math.Float64bits(a), f, quality.Ahead(a, f), quality.Ahead(f, a))
			}
		}
	}
}

func TestAheadOfEach(t *testing.T) { // N2: of many pairs
	for _, a := range floats() {
		if quality.Ahead(a, a) {
			t.Errorf("%v is ahead of itself", a)
		}
		for _, b := range floats() {
			if got, want := quality.Ahead(a, b), rank(a) > rank(b); got != want {
				t.Errorf("Ahead %v, %v: %t", a, b, got)
			}
		}
	}
}

func TestThreeInARow(t *testing.T) { // N2: the first is ahead of the last
	l := floats()
	slices.SortStableFunc(l, func(a, b float64) int {
		switch {
		case quality.Ahead(a, b):
			return -1
		case quality.Ahead(b, a):
			return 1
		}
		return 0
	})
	for i, a := range l {
		for k, b := range l[i:] {
			if rank(a) < rank(b) {
				t.Fatalf("%v stands ahead of %v", a, b)
			}
			for _, c := range l[i+k:] {
				if quality.Ahead(a, b) && quality.Ahead(b, c) && !quality.Ahead(a, c) {
					t.Fatalf("%v, %v, %v", a, b, c)
				}
			}
		}
	}
}

func TestClamp(t *testing.T) { // N3: at the edges, and the sign of the nought
	nought := math.Copysign(0, -1)
	for _, x := range []struct{ f, want float64 }{
		{0, 0}, {nought, 0}, {1, 1}, {0.5, 0.5}, {0.001, 0.001}, {0.999, 0.999},
		{math.SmallestNonzeroFloat64, math.SmallestNonzeroFloat64}, {-math.SmallestNonzeroFloat64, 0}, {0x1p-1022, 0x1p-1022}, {-0x1p-1022, 0},
		{math.Nextafter(1, 0), math.Nextafter(1, 0)}, {math.Nextafter(1, 2), 1}, {1.001, 1}, {2, 1}, {math.MaxFloat64, 1}, {math.Inf(1), 1},
		{-0.5, 0}, {-1, 0}, {-math.Nextafter(1, 0), 0}, {-2, 0}, {-math.MaxFloat64, 0}, {math.Inf(-1), 0},
	} {
		if got := quality.Clamp(x.f); !same(got, x.want) {
			t.Errorf("Clamp %v: %v, not %v", x.f, got, x.want)
		}
	}
	for _, f := range nans() {
		if got := quality.Clamp(f); !same(got, 0) {
			t.Errorf("Clamp %x: %v", math.Float64bits(f), got)
		}
	}
}

func TestClampOfEach(t *testing.T) { // N3: of many floats
	for _, f := range floats() {
		if got := quality.Clamp(f); !same(got, clamped(f)) {
			t.Errorf("Clamp %v: %v, not %v", f, got, clamped(f))
		}
	}
}
