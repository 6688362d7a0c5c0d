package media_test

import (
	"testing"

	"broadsheet/api"
	"broadsheet/media"
)

// types calls f with many media types and ranges that are parsed.
func types(t *testing.T, f func(s string, m api.Media)) {
	count := 0
	check := func(s string) {
		if m, e := media.Parse(s); e == api.OK {
			count++
			f(s, m)
		}
	}
	texts("", []string{"a", "B*", "*", "/", ";c=", "; D=\"", "\"", "\\", " ", "é"}, 6, check)
	texts("a/b", []string{";c=", "; D=\"", "\\\"", "\\\\", "\"", "e", " ", "\t", ",", "\xff"}, 6, check)
	for c := range 256 {
		x := string([]byte{byte(c)})
		check("a/b;c=" + x)
		check("a/b;c=\"" + x + "\"; d=\"\\" + x + "e\"")
		check("a" + x + "/b" + x + ";c" + x + "=d")
	}
	if count < 1000 {
		t.Errorf("%d texts alone are types", count)
	}
}

func TestToldAndParsedAsItWas(t *testing.T) { // M5
	types(t, func(s string, m api.Media) {
		told := media.Print(m)
		if again, e := media.Parse(told); !same(again, m) || e != api.OK {
			t.Fatalf("%q is %q, told as %q, which is %q, %d", s, m, told, again, e)
		}
	})
}

func TestToldAgain(t *testing.T) { // M5: so there is one form in which it is told
	types(t, func(s string, m api.Media) {
		told := media.Print(m)
		again, _ := media.Parse(told)
		if media.Print(again) != told {
			t.Fatalf("%q is told as %q, and again as %q", s, told, media.Print(again))
		}
	})
}

func TestFitsItself(t *testing.T) { // M5: but for a Name that it has twice
	types(t, func(s string, m api.Media) {
		names := map[string]int{}
		for _, p := range m.Params {
			names[p.Name]++
		}
		if len(names) == len(m.Params) && !media.Fits(m, m) {
			t.Fatalf("%q does not fit itself", s)
		}
	})
}

func TestFitsWithoutParameters(t *testing.T) { // M5
	var l []api.Media
	for _, head := range []string{"*/*", "a/*", "b/*", "a/b", "b/a", "**/c"} {
		texts(head, []string{";c=d", `;C="D"`, ";c=e", `; f=""`, ";q=1", `;g="h i"`}, 3, func(s string) { l = append(l, known(t, s)) })
	}
	count := 0
	for _, r := range l {
		bare := of(r.Type, r.Sub)
		for _, m := range l {
			isBareFit := media.Fits(bare, m)
			if media.Fits(r, m) && !isBareFit {
				t.Fatalf("%q fits %q, but not %q", m, r, bare)
			}
			if isBareFit != media.Fits(bare, of(m.Type, m.Sub)) {
				t.Fatalf("%q and %q: it hangs on the type's own parameters", bare, m)
			}
			if isBareFit {
				count++
			}
		}
	}
	if count < 10000 || count == len(l)*len(l) {
		t.Errorf("%d of %d fit", count, len(l)*len(l))
	}
}
