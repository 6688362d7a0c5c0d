package locator_test

import (
	"testing"

	"broadsheet/api"
	"broadsheet/locator"
)

// prints fails unless u is told as want.
func prints(t *testing.T, u api.URI, want string) {
	t.Helper()
	if got := locator.Print(u); got != want {
		t.Errorf("Print %+v: %q, not %q", u, got, want)
	}
}

func TestPrint(t *testing.T) { // L2: parts that are there, that are empty, and that are missing
	prints(t, of("a", "b", "/c", "d", "e"), "a://b/c?d#e")
	prints(t, of(none, "b", "/c", "d", "e"), "//b/c?d#e")
	prints(t, of("a", none, "/c", "d", "e"), "a:/c?d#e")
	prints(t, of("a", "b", "", "d", "e"), "a://b?d#e")
	prints(t, of("a", "b", "/c", none, "e"), "a://b/c#e")
	prints(t, of("a", "b", "/c", "d", none), "a://b/c?d")
	prints(t, of("", "b", "/c", "d", "e"), "://b/c?d#e")
	prints(t, of("a", "", "/c", "d", "e"), "a:///c?d#e")
	prints(t, of("a", "b", "/c", "", "e"), "a://b/c?#e")
	prints(t, of("a", "b", "/c", "d", ""), "a://b/c?d#")
	prints(t, of("", "", "", "", ""), "://?#")
	prints(t, of(none, none, "", none, none), "")
	prints(t, of("", none, "", none, none), ":")
	prints(t, of(none, "", "", none, none), "//")
	prints(t, of(none, none, "c", none, none), "c")
	prints(t, of(none, none, "", "", none), "?")
	prints(t, of(none, none, "", none, ""), "#")
}

func TestPrintOfWhatIsMissing(t *testing.T) { // L2: it is not told, though its text is not empty
	prints(t, api.URI{Scheme: "a", Host: "b", Path: "/c", Query: "d", Frag: "e"}, "/c")
	prints(t, api.URI{Scheme: "a"}, "")
	prints(t, api.URI{Host: "b"}, "")
	prints(t, api.URI{Query: "d"}, "")
	prints(t, api.URI{Frag: "e"}, "")
	for n := range 16 { // each of the four there or not
		u := api.URI{Scheme: "a", Host: "b", Path: "/c", Query: "d", Frag: "e", HasScheme: n&1 > 0, HasHost: n&2 > 0, HasQuery: n&4 > 0, HasFrag: n&8 > 0}
		want := "/c"
		if u.HasHost {
			want = "//b" + want
		}
		if u.HasScheme {
			want = "a:" + want
		}
		if u.HasQuery {
			want += "?d"
		}
		if u.HasFrag {
			want += "#e"
		}
		prints(t, u, want)
	}
}

func TestPrintOfAnything(t *testing.T) { // L2: nobody asks what stands in the parts
	prints(t, of("1:", "/?#", "//c ", "#", "#"), "1::///?#//c ?###")
	prints(t, of("\xff", "\x00", "%", "[", "\n"), "\xff://\x00%?[#\n")
	prints(t, of(none, none, "//b", none, none), "//b")
	prints(t, of(none, none, "a:b", none, none), "a:b")
	prints(t, of(none, "b", "c", none, none), "//bc")
}
