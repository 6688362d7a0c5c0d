package media_test

import (
	"slices"
	"strings"
	"testing"

	"broadsheet/api"
	"broadsheet/media"
)

// has fails unless m has a parameter of that Name, and its first one has that Value.
func has(t *testing.T, m api.Media, name, want string) {
	t.Helper()
	if got, is := media.Param(m, name); got != want || !is {
		t.Errorf("Param %q of %q: %q, %t, not %q", name, m, got, is, want)
	}
}

// hasNone fails unless m has no parameter of any of the names.
func hasNone(t *testing.T, m api.Media, names ...string) {
	t.Helper()
	for _, name := range names {
		if got, is := media.Param(m, name); got != "" || is {
			t.Errorf("Param %q of %q: %q, %t", name, m, got, is)
		}
	}
}

func TestParam(t *testing.T) { // M2: once, twice, with an empty Value, and not there
	m := known(t, `a/b; c=1; Dd="2 3"; e=""; c=4; f=""; f=5; g=6; g=""; q=0.5`)
	has(t, m, "c", "1")
	has(t, m, "dd", "2 3")
	has(t, m, "e", "")
	has(t, m, "f", "")
	has(t, m, "g", "6")
	has(t, m, "q", "0.5")
	hasNone(t, m, "", "a", "b", "d", "ddd", "h", "1", "2 3", "cc", "c ", " c", "é", "\x00", "*")
	hasNone(t, known(t, "a/b"), "", "a", "b", "c", "q", "*", "charset")
	hasNone(t, api.Media{}, "", "c", "q")
}

func TestParamByItsVeryName(t *testing.T) { // M2: no letter counts as another one
	hasNone(t, known(t, "a/b;C=1"), "C")
	has(t, known(t, "a/b;C=1"), "c", "1")
	m := of("a", "b", "C", "1", "c", "2", "", "3", "é", "4", "\xff", "5", "c d", "6", "\u212A", "7")
	has(t, m, "C", "1")
	has(t, m, "c", "2")
	has(t, m, "", "3")
	has(t, m, "é", "4")
	has(t, m, "\xff", "5")
	has(t, m, "c d", "6")
	hasNone(t, m, "É", "\xfe", "\uFFFD", "C D", "k", "K", "c\x00")
}

// fit fails unless each range of l has that type, or, if want is false, has it not.
func fit(t *testing.T, want bool, m string, l ...string) {
	t.Helper()
	for _, r := range l {
		if got := media.Fits(known(t, r), known(t, m)); got != want {
			t.Errorf("Fits %q, %q: %t", r, m, got)
		}
	}
}

func TestFits(t *testing.T) { // M3: stars in Type and Sub
	fit(t, true, "image/png", "image/png", "image/*", "*/*", "IMAGE/Png", "Image/*")
	fit(t, false, "image/png", "image/gif", "text/png", "text/*", "imag/png", "image/pn", "image/png2", "images/*", "png/image", "**/*", "image/**", "i*/png", "image/p*")
	fit(t, true, "*/*", "*/*")
	fit(t, false, "*/*", "a/*", "a/b", "**/a")
	fit(t, true, "a/*", "a/*", "*/*")
	fit(t, false, "a/*", "a/b", "b/*")
}

func TestFitsAsItIsTold(t *testing.T) { // M3: of what Parse does not tell
	for _, x := range []struct {
		r, m api.Media
		want bool
	}{
		{of("", ""), of("", ""), true}, {of("", ""), of("a", "b"), false}, {of("*", "*"), of("", ""), true}, {of("*", "*"), of("*", ""), true},
		{of("*", "b"), of("a", "b"), true}, {of("*", "b"), of("a", "c"), false}, {of("*", ""), of("a", "b"), false},
		{of("A", "b"), of("a", "b"), false}, {of("a", "B"), of("a", "b"), false}, {of("A", "B"), of("A", "B"), true}, // no letter counts as another one
		{of("a", "b", "C", "d"), of("a", "b", "c", "d"), false}, {of("a", "b", "c", "d"), of("a", "b", "C", "d"), false}, {of("a", "b", "C", "d"), of("a", "b", "C", "D"), true},
		{of("a", "b", "Q", "1"), of("a", "b"), false}, {of("a", "b", "Q", "1"), of("a", "b", "q", "1"), false}, {of("a", "b", "q", "1"), of("a", "b", "Q", "2"), true},
		{of("a", "b", "", ""), of("a", "b"), false}, {of("a", "b", "", ""), of("a", "b", "", ""), true},
		{api.Media{Type: "a", Sub: "b", Params: []api.Pair{}}, of("a", "b"), true},
	} {
		if got := media.Fits(x.r, x.m); got != x.want {
			t.Errorf("Fits %q, %q: %t", x.r, x.m, got)
		}
	}
}

func TestFitsWithParameters(t *testing.T) { // M3: of the range, and of the type
	fit(t, true, "a/b", "a/b", "a/*", "*/*")
	fit(t, false, "a/b", "a/b;c=d", "a/*;c=d", "*/*;c=d", `a/b;c=""`, "*/*;*=*")
	fit(t, true, "a/b;c=d", "a/b;c=d", "a/b", "a/*", "*/*", "a/*;c=d", "*/*;c=d", `a/b;c="d"`, "a/b;C=d", "a/b;c=d;c=d")
	fit(t, false, "a/b;c=d", "a/b;c=e", "a/b;c=dd", `a/b;c=""`, "a/b;d=c", "a/b;e=d", "a/b;c=d;e=f", "a/b;e=f;c=d", "*/*;c=e", "a/c;c=d", "b/b;c=d", "b/*;c=d", "a/b;c=*", "a/b;*=d", `a/b;c="d "`)
	fit(t, true, `a/b;c=""`, `a/b;c=""`, "a/b")
	fit(t, false, `a/b;c=""`, "a/b;c=d", `a/b;d=""`, `a/b;c=" "`)
	fit(t, true, "a/b;c=1;d=2;e=3", "a/b;c=1;d=2;e=3", "a/b;e=3;d=2;c=1", "a/b;d=2;c=1", "a/b;c=1;e=3", "a/b;d=2", "a/*;e=3;c=1", "*/*;d=2;e=3", "a/b") // in whatever order
	fit(t, false, "a/b;c=1;d=2;e=3", "a/b;c=1;d=2;e=3;f=4", "a/b;c=2", "a/b;c=2;d=1", "a/b;e=3;d=1", "a/b;d=2;c=1;e=2", "a/b;f=4;c=1", "a/b;c=1;d=2;e=4", "a/b;c=0;d=2;e=3")
}

func TestFitsWithANameTwice(t *testing.T) { // M3: the type's first one counts, and each of the range's
	fit(t, true, "a/b;c=1;c=2", "a/b;c=1", "a/b;c=1;c=1", "a/b")
	fit(t, false, "a/b;c=1;c=2", "a/b;c=2", "a/b;c=1;c=2", "a/b;c=2;c=1", "a/b;c=2;c=2")
	fit(t, false, "a/b;c=1", "a/b;c=1;c=2", "a/b;c=2;c=1")
	fit(t, true, "a/b;c=1;d=1;c=2;d=2", "a/b;d=1;c=1", "a/b;c=1;C=1;d=1")
	fit(t, false, "a/b;c=1;d=1;c=2;d=2", "a/b;d=2;c=1", "a/b;c=1;d=1;c=2")
	fit(t, true, `a/b;c="";c=1`, `a/b;c=""`)
	fit(t, false, `a/b;c="";c=1`, "a/b;c=1")
}

func TestFitsByLetters(t *testing.T) { // M3: letters A to Z of Values count as small ones, no other ones do
	fit(t, true, "a/b;c=utf-8", "a/b;c=UTF-8", "a/b;c=uTf-8", `a/b;c="Utf-8"`)
	fit(t, true, "a/b;c=UTF-8", "a/b;c=utf-8", "a/b;c=UTF-8", "a/*;C=utF-8")
	fit(t, true, `a/b;c="é K"`, `a/b;c="é K"`, `a/b;c="é k"`)
	fit(t, false, `a/b;c="é"`, `a/b;c="É"`, `a/b;c=e`)
	fit(t, false, `a/b;c=k`, "a/b;c=\"\u212A\"")
	fit(t, false, `a/b;c=s`, "a/b;c=\"\u017F\"")
	fit(t, false, `a/b;c=ss`, `a/b;c="ß"`)
	fit(t, false, "a/b;c=\"\xff\"", "a/b;c=\"\xfe\"", "a/b;c=\"\uFFFD\"")
	fit(t, true, "a/b;c=\"\xffA\"", "a/b;c=\"\xffa\"")
	for a := range 256 {
		for b := range 256 {
			x, y := string([]byte{byte(a)}), string([]byte{byte(b)})
			isLetter := a >= 'A' && a <= 'Z' || a >= 'a' && a <= 'z'
			want := a == b || isLetter && (a-b == 32 || b-a == 32) && (b >= 'A' && b <= 'Z' || b >= 'a' && b <= 'z')
			if got := media.Fits(of("a", "b", "c", "x"+x+"é"), of("a", "b", "c", "x"+y+"é")); got != want {
				t.Fatalf("Values %q and %q: %t", x, y, got)
			}
		}
	}
}

func TestFitsWithQ(t *testing.T) { // M3: a range's q is not asked for, wherever it stands
	fit(t, true, "a/b", "a/b;q=1", "a/*;q=0", "*/*;q=x", `a/b;q=""`, "a/b;Q=0.5", "a/b;q=1;q=0")
	fit(t, true, "a/b;c=d", "a/b;q=1;c=d", "a/b;c=d;q=1", "a/b;q=1;c=D;q=0", "*/*;q=0;c=d", "a/b;q=d", "a/b;q=e")
	fit(t, false, "a/b;c=d", "a/b;q=1;c=e", "a/b;c=e;q=1", "a/b;q=1;e=f", "b/b;q=1")
	fit(t, false, "a/b", "a/b;q=1;c=d", "a/b;c=d;q=1", "a/b;qs=1", "a/b;p=1", "a/b;q0=1", "b/*;q=1", "*/*;q=1;c=d")
	fit(t, true, "a/b;q=1", "a/b;q=1", "a/b;q=0", "a/b", "*/*;q=0.5")
	fit(t, false, "a/b;q=1;c=d", "a/b;q=1;c=1")
}

func TestFitsEach(t *testing.T) { // M3: of many ranges and types
	var l []api.Media
	for _, head := range []string{"*/*", "a/*", "a/b", "a/c", "b/c"} {
		texts(head, []string{";c=d", ";c=D", ";c=e", `;f=""`, ";q=1", ";g=h"}, 3, func(s string) { l = append(l, known(t, s)) })
	}
	count := 0
	for _, r := range l {
		for _, m := range l {
			want := fits(r, m)
			if want {
				count++
			}
			if got := media.Fits(r, m); got != want {
				t.Fatalf("Fits %q, %q: %t", r, m, got)
			}
		}
	}
	if count < 10000 || count > len(l)*len(l)/2 {
		t.Errorf("%d of %d fit", count, len(l)*len(l))
	}
}

func TestWhatIsHandedIn(t *testing.T) { // R3: nothing is written into it
	given := func() api.Media {
		m := of("A", "B", "C", "D", "q", "X Y", "E", "F")
		m.Params = m.Params[:2]
		return m
	}
	r, m := given(), given()
	media.Fits(r, m)
	media.Param(m, "C")
	media.Print(m)
	for _, x := range []api.Media{r, m} {
		if !same(x, given()) || !slices.Equal(x.Params[:3], given().Params[:3]) {
			t.Errorf("%q", x.Params[:3])
		}
	}
}

func TestManyParameters(t *testing.T) { // M2, M3: it ends
	const n = 2000
	var params []string
	for i := range n {
		params = append(params, strings.Repeat("a", i+1), "X")
	}
	m := of("a", "b", params...)
	slices.Reverse(params)
	for i := 0; i < len(params); i += 2 {
		params[i], params[i+1] = params[i+1], "x"
	}
	if r := of("a", "b", params...); !media.Fits(r, m) || media.Fits(of("a", "b", append(params, "b", "x")...), m) {
		t.Errorf("%d parameters", n)
	}
	has(t, m, strings.Repeat("a", n), "X")
	hasNone(t, m, strings.Repeat("a", n+1))
}
