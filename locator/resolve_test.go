package locator_test

import (
	"net/url"
	"testing"

	"broadsheet/api"
	"broadsheet/locator"
)

// read is the reference that a good text tells.
func read(t *testing.T, s string) api.URI {
	t.Helper()
	u, e := locator.Parse(s)
	if e != api.OK {
		t.Fatalf("Parse %q: %d", s, e)
	}
	return u
}

// resolves fails unless each second text is what the one ahead of it refers to in base.
func resolves(t *testing.T, base string, l ...string) {
	t.Helper()
	for i := 0; i+1 < len(l); i += 2 {
		got := locator.Resolve(read(t, base), read(t, l[i]))
		if got != read(t, l[i+1]) || locator.Print(got) != l[i+1] {
			t.Errorf("Resolve %q in %q: %+v, not %q", l[i], base, got, l[i+1])
		}
	}
}

func TestResolve(t *testing.T) { // L4
	resolves(t, "http://a/b/c/d;p?q", "g:h", "g:h", "g", "http://a/b/c/g", "./g", "http://a/b/c/g", "g/", "http://a/b/c/g/", "/g", "http://a/g",
		"//g", "http://g", "?y", "http://a/b/c/d;p?y", "g?y", "http://a/b/c/g?y", "#s", "http://a/b/c/d;p?q#s", "g#s", "http://a/b/c/g#s",
		"g?y#s", "http://a/b/c/g?y#s", ";x", "http://a/b/c/;x", "g;x", "http://a/b/c/g;x", "g;x?y#s", "http://a/b/c/g;x?y#s",
		"", "http://a/b/c/d;p?q", ".", "http://a/b/c/", "./", "http://a/b/c/", "..", "http://a/b/", "../", "http://a/b/", "../g", "http://a/b/g",
		"../..", "http://a/", "../../", "http://a/", "../../g", "http://a/g")
	resolves(t, "http://a/b/c/d;p?q", "../../../g", "http://a/g", "../../../../g", "http://a/g", "/./g", "http://a/g", "/../g", "http://a/g",
		"g.", "http://a/b/c/g.", ".g", "http://a/b/c/.g", "g..", "http://a/b/c/g..", "..g", "http://a/b/c/..g",
		"./../g", "http://a/b/g", "./g/.", "http://a/b/c/g/", "g/./h", "http://a/b/c/g/h", "g/../h", "http://a/b/c/h",
		"g;x=1/./y", "http://a/b/c/g;x=1/y", "g;x=1/../y", "http://a/b/c/y", "g?y/./x", "http://a/b/c/g?y/./x", "g?y/../x", "http://a/b/c/g?y/../x",
		"g#s/./x", "http://a/b/c/g#s/./x", "g#s/../x", "http://a/b/c/g#s/../x", "http:g", "http:g")
}

func TestResolveWithAScheme(t *testing.T) { // L4: nothing of the base is left, not even where the Scheme is the same
	for _, base := range []string{"a://b/c/d?e#f", "a:", "//b", "/c", "c", "?e", "#f", ""} {
		resolves(t, base, "x:", "x:", "a:", "a:", "x:#z", "x:#z", "x:?y", "x:?y", "x:?", "x:?", "x:?y#z", "x:?y#z", "x://h", "x://h", "x://h/p?y#z", "x://h/p?y#z",
			"x:p/../q", "x:/q", "x:../q#z", "x:q#z", "x:/p/./q", "x:/p/q", "x:..", "x:", "x:.", "x:", "x://h/..", "x://h/", "x://h/p/../q?y/../z", "x://h/q?y/../z")
	}
}

func TestResolveWithAHost(t *testing.T) { // L4: of the base but the Scheme is left
	resolves(t, "a://b/c/d?e#f", "//h", "a://h", "//", "a://", "//h#z", "a://h#z", "//h?y", "a://h?y", "//h?", "a://h?", "//h?y#z", "a://h?y#z", "//h/p", "a://h/p",
		"//h/p/../q", "a://h/q", "//h/..#z", "a://h/#z", "///p", "a:///p", "//h/./p?y#z", "a://h/p?y#z")
	resolves(t, "//b/c?e#f", "//h", "//h", "//h/p/..?y", "//h/?y")
	resolves(t, "a:c", "//h", "a://h", "//h?y#", "a://h?y#")
	resolves(t, "", "//h", "//h", "//h/../p#z", "//h/p#z")
}

func TestResolveWithAnEmptyPath(t *testing.T) { // L4: that of the base, with its dots, and its Query, if there is no other one
	resolves(t, "a://b/c/d?e#f", "", "a://b/c/d?e", "#", "a://b/c/d?e#", "#z", "a://b/c/d?e#z", "?y", "a://b/c/d?y", "?", "a://b/c/d?", "?y#z", "a://b/c/d?y#z", "?#", "a://b/c/d?#")
	resolves(t, "a://b/c/d", "", "a://b/c/d", "#z", "a://b/c/d#z", "?y", "a://b/c/d?y", "?#z", "a://b/c/d?#z")
	resolves(t, "a://b/c/d?", "", "a://b/c/d?", "#z", "a://b/c/d?#z", "?y", "a://b/c/d?y")
	resolves(t, "a://b/c/../d/.?e", "", "a://b/c/../d/.?e", "#z", "a://b/c/../d/.?e#z", "?y", "a://b/c/../d/.?y")
	resolves(t, "a://b", "", "a://b", "#z", "a://b#z", "?y", "a://b?y")
	resolves(t, "a:..", "", "a:..", "?y#z", "a:..?y#z")
	resolves(t, "?e", "", "?e", "?y", "?y", "#z", "?e#z")
	resolves(t, "#f", "", "", "#z", "#z", "?y", "?y")
}

func TestResolveWithAPathFromTheTop(t *testing.T) { // L4: it stands in the place of the base's Path, and its Query is another one, or none
	resolves(t, "a://b/c/d?e#f", "/", "a://b/", "/p", "a://b/p", "/p#z", "a://b/p#z", "/p?y", "a://b/p?y", "/p?", "a://b/p?", "/p?y#z", "a://b/p?y#z", "/p/../q", "a://b/q", "/..", "a://b/", "/./p/.", "a://b/p/")
	resolves(t, "a://b", "/p", "a://b/p", "/../p", "a://b/p")
	resolves(t, "a:c", "/p", "a:/p", "/../p?y", "a:/p?y")
	resolves(t, "c/d?e", "/p", "/p", "/p/..#z", "/#z")
	resolves(t, "//b?e", "/p", "//b/p")
}

func TestResolveWithAPath(t *testing.T) { // L4: it stands behind the last / of the base's Path
	resolves(t, "a://b/c/d?e#f", "p", "a://b/c/p", "p#z", "a://b/c/p#z", "p?y", "a://b/c/p?y", "p?", "a://b/c/p?", "p?y#z", "a://b/c/p?y#z", "p/q", "a://b/c/p/q", "../p", "a://b/p", "../../p", "a://b/p", ".", "a://b/c/", "..", "a://b/")
	resolves(t, "a://b/c/", "p", "a://b/c/p", "../p", "a://b/p", ".", "a://b/c/")
	resolves(t, "a://b/", "p", "a://b/p", "..", "a://b/")
	resolves(t, "a://b/c//d", "p", "a://b/c//p", "../p", "a://b/c/p", "..", "a://b/c/")
	resolves(t, "a://b/c/./x/../d", "p", "a://b/c/p", "../p", "a://b/p")
	resolves(t, "a://b/c?e/f#g/h", "p", "a://b/p") // a / of another part is none of the Path
	resolves(t, "a://b?e/f", "p", "a://b/p", "p#z", "a://b/p#z", "p?y", "a://b/p?y", "..", "a://b/", ".", "a://b/", "../p", "a://b/p", "p/..", "a://b/")
	resolves(t, "//b", "p", "//b/p", "./p", "//b/p")
	resolves(t, "//", "p", "///p", "..", "///")
	resolves(t, "a:", "p", "a:p", "../p", "a:p", "..", "a:", ".", "a:", "p/../q", "a:/q")
	resolves(t, "a:c", "p", "a:p", "./p", "a:p", "../p?y", "a:p?y", "p/..", "a:/")
	resolves(t, "a:c/d", "p", "a:c/p", "../p", "a:/p", "..", "a:/", ".", "a:c/")
	resolves(t, "c", "p", "p", "..", "")
	resolves(t, "c/d", "p", "c/p", "../p", "/p", "../../p", "/p")
	resolves(t, "../c/d", "p", "c/p")
	resolves(t, "", "p", "p", "../p", "p", "./p#z", "p#z")
	resolves(t, "?e#f", "p", "p", "p?y#z", "p?y#z")
}

func TestResolveByWhatThereIs(t *testing.T) { // L4: a part that is missing is none, though its text is not empty
	missing := api.URI{Scheme: "x", Host: "h", Query: "y", Frag: "z"}
	base := of("a", "b", "/c/d", "e", "f")
	if got := locator.Resolve(base, missing); locator.Print(got) != "a://b/c/d?e" || got.HasFrag {
		t.Errorf("%+v", got)
	}
	missing.Path = "p"
	if got := locator.Print(locator.Resolve(base, missing)); got != "a://b/c/p" {
		t.Errorf("%q", got)
	}
	bare := api.URI{Scheme: "a", Host: "b", Query: "e"}
	if got := locator.Print(locator.Resolve(bare, of(none, none, "p", none, none))); got != "p" {
		t.Errorf("%q: there is no Host, so nothing is put ahead", got)
	}
	if got := locator.Print(locator.Resolve(bare, of(none, none, "", none, "z"))); got != "#z" {
		t.Errorf("%q", got)
	}
}

// each calls f with all references of such paths, with each other part missing, empty and there;
// where a part is missing it has a text if junk is not empty.
func each(paths []string, mark, junk string, f func(api.URI)) {
	for _, p := range paths {
		for n := range 3 * 3 * 3 * 3 {
			u := api.URI{Path: p}
			u.Scheme, u.HasScheme = one(n%3, mark+"s", junk)
			u.Host, u.HasHost = one(n/3%3, mark+"h", junk)
			u.Query, u.HasQuery = one(n/9%3, mark+"q", junk)
			u.Frag, u.HasFrag = one(n/27, mark+"f", junk)
			f(u)
		}
	}
}

// one is a part: missing, empty or there.
func one(n int, s, junk string) (string, bool) {
	switch n {
	case 0:
		return junk, false
	case 1:
		return "", true
	}
	return s, true
}

func TestResolveOfEach(t *testing.T) { // L4: each part of base and reference missing, empty and there, and paths of each kind
	for _, junk := range []string{"", "x"} {
		each([]string{"", "/", "c", "/c", "c/", "/c/d", "../c/./d"}, "b", junk, func(base api.URI) {
			each([]string{"", "/", "p", "/p", "../p", "/p/../q", "."}, "r", junk, func(r api.URI) {
				if got, want := locator.Resolve(base, r), resolved(base, r); got != want {
					t.Fatalf("Resolve %+v in %+v: %+v, not %+v", r, base, got, want)
				}
			})
		})
	}
}

func TestResolveAsTheLibraryDoes(t *testing.T) { // L4: where bases are whole, and pieces are not empty, Go's own library tells the same
	count := 0
	for _, base := range []string{"http://a/b/c/d;p?q", "http://a", "http://a/", "http://a/b/", "http://a?q"} {
		whole, err := url.Parse(base)
		if err != nil {
			t.Fatal(err)
		}
		for _, head := range []string{"", "/", "//h/", "x://h/"} {
			texts([]string{"./", "../", "p/", "...", "q?y", "#z"}, 4, func(s string) {
				r, err := url.Parse(head + s)
				u, e := locator.Parse(head + s)
				if err != nil || e != api.OK {
					return
				}
				count++
				if got, want := locator.Print(locator.Resolve(read(t, base), u)), whole.ResolveReference(r).String(); got != want {
					t.Fatalf("Resolve %q in %q: %q, not %q", head+s, base, got, want)
				}
			})
		}
	}
	if count < 1000 {
		t.Errorf("%d references alone are held against it", count)
	}
}
