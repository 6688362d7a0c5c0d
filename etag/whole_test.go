package etag_test

import (
	"slices"
	"strings"
	"testing"

	"broadsheet/api"
	"broadsheet/etag"
)

// told calls f with many tags that have a text, and with it.
func told(t *testing.T, f func(x api.Tag, s string)) {
	t.Helper()
	count := 0
	check := func(x api.Tag) {
		if s, e := etag.Print(x); e == api.OK {
			count++
			f(x, s)
		}
	}
	texts("", []string{"a", "W/", ",", "*", "é", "\xff", "\\", `"`, " "}, 5, func(value string) {
		check(strong(value))
		check(weak(value))
	})
	for a := range 256 {
		for b := range 256 {
			check(api.Tag{Weak: b%2 == 0, Value: string([]byte{byte(a), byte(b)})})
		}
	}
	if count < 10000 {
		t.Errorf("%d tags alone are told", count)
	}
}

func TestToldIsOneTagOfAList(t *testing.T) { // Q5: the same, alone and among others
	told(t, func(x api.Tag, s string) {
		reads(t, s, x)
		reads(t, joined(`"first"`, s, `W/"last"`), strong("first"), x, weak("last"))
		reads(t, " "+joined(s, s)+" ,", x, x)
	})
}

func TestReadIsTold(t *testing.T) { // Q5: what a list's tags are told as is read as that list
	count := 0
	texts("", []string{`"a"`, `W/"`, `"`, ",", " ", "b", "*"}, 6, func(s string) {
		l, star, e := etag.List(s)
		if star || e != api.OK {
			return
		}
		var parts []string
		for _, x := range l {
			one, e := etag.Print(x)
			if e != api.OK || !strings.Contains(s, one) {
				t.Fatalf("%q has %s, which is told as %q, %d", s, shown(x), one, e)
			}
			parts = append(parts, one)
		}
		reads(t, joined(parts...), l...)
		count++
	})
	if count < 1000 {
		t.Errorf("%d lists alone", count)
	}
}

func TestUponAMatch(t *testing.T) { // Q5: just if a tag is the one that is there, or it is a star, and something is there
	var tags []api.Tag
	texts("", []string{"a", "b", ",", "W/", "*", "\xff"}, 2, func(value string) { tags = append(tags, strong(value), weak(value)) })
	for _, a := range tags {
		for _, b := range tags {
			s, _ := etag.Print(a)
			more, _ := etag.Print(b)
			for _, x := range []api.Tag{a, b, strong("c"), weak(a.Value)} {
				each(func(there, get bool) {
					isOne := there && !x.Weak && slices.Contains([]api.Tag{a, b}, x)
					if done := etag.May(joined(s, more), "", x, there, get) == 0; done != isOne {
						t.Fatalf("upon %s and %s, %s (%t): %t", shown(a), shown(b), shown(x), there, done)
					}
					if done := etag.May("*", "", x, there, get) == 0; done != there {
						t.Fatalf("upon a star, %s (%t): %t", shown(x), there, done)
					}
				})
			}
		}
	}
}

func TestUponOneTag(t *testing.T) { // Q5: of many tags, each being held against what is there, and against another one
	told(t, func(x api.Tag, s string) {
		each(func(there, get bool) {
			if done := etag.May(s, "", x, there, get) == 0; done != (there && !x.Weak) {
				t.Fatalf("upon %s itself (%t): %t", shown(x), there, done)
			}
			if another := strong(x.Value + "!"); etag.May(s, "", another, there, get) != 412 {
				t.Fatalf("upon %s, %s (%t): it is done", shown(x), shown(another), there)
			}
			if got := etag.May("", s, x, there, get); there && got != hit(get) || !there && got != 0 {
				t.Fatalf("upon none of %s, itself (%t): %d", shown(x), there, got)
			}
		})
	})
}
