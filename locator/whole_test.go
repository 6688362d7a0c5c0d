package locator_test

import (
	"testing"

	"broadsheet/api"
	"broadsheet/locator"
)

// references calls f with many good texts, and what they are read as.
func references(t *testing.T, f func(s string, u api.URI)) {
	count := 0
	texts([]string{"a:", "//", "/", "..", ".", "b", "?", "#", "[é]", "%41"}, 5, func(s string) {
		if u, e := locator.Parse(s); e == api.OK {
			count++
			f(s, u)
		}
	})
	if count < 10000 {
		t.Errorf("%d texts alone are references", count)
	}
}

func TestToldAsItWas(t *testing.T) { // L5: what is parsed
	references(t, func(s string, u api.URI) {
		if got := locator.Print(u); got != s {
			t.Fatalf("Print %+v: %q, not %q", u, got, s)
		}
	})
}

func TestDotsOfDots(t *testing.T) { // L5: are the same
	texts([]string{"/", ".", "..", "...", "a", "b."}, 7, func(s string) {
		if once := locator.Dots(s); locator.Dots(once) != once {
			t.Fatalf("Dots %q: %q, and of that %q", s, once, locator.Dots(once))
		}
	})
}

func TestResolvedAsItIs(t *testing.T) { // L5: what has a Scheme, but for dots
	bases := []api.URI{of(none, none, "", none, none), of("x", "h", "/p/q", "y", "z"), of("a", none, "p", none, "z"), of(none, "", "", "", none)}
	references(t, func(s string, u api.URI) {
		if !u.HasScheme {
			return
		}
		want := u
		want.Path = locator.Dots(u.Path)
		for _, base := range bases {
			if got := locator.Resolve(base, u); got != want {
				t.Fatalf("Resolve %q in %+v: %+v", s, base, got)
			}
		}
	})
}

func TestReferencesToNothing(t *testing.T) { // L5: are the base, but for the Frag
	references(t, func(s string, base api.URI) {
		for _, frag := range []string{none, "", "z"} {
			want := base
			want.Frag, want.HasFrag = part(frag)
			if got := locator.Resolve(base, of(none, none, "", none, frag)); got != want {
				t.Fatalf("Resolve nothing in %q: %+v, not %+v", s, got, want)
			}
		}
	})
}
