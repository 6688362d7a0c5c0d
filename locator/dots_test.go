package locator_test

import (
	"net/url"
	"strings"
	"testing"

	"broadsheet/locator"
)

// undots fails unless each second text is what Dots tells of the one ahead of it.
func undots(t *testing.T, l ...string) {
	t.Helper()
	for i := 0; i+1 < len(l); i += 2 {
		if got := locator.Dots(l[i]); got != l[i+1] {
			t.Errorf("Dots %q: %q, not %q", l[i], got, l[i+1])
		}
	}
}

func TestDots(t *testing.T) { // L3
	undots(t, "", "", "a", "a", "/", "/", "/a", "/a", "a/", "a/", "/a/", "/a/", "a/b", "a/b", "/a/b/c", "/a/b/c")
	undots(t, "/a/b/../c/./d", "/a/c/d", "/a/b/c/./../../g", "/a/g", "mid/content=5/../6", "mid/6")
}

func TestDotsAtTheHead(t *testing.T) { // L3: ../ and ./ go, as often as they stand there
	undots(t, "../", "", "./", "", "../a", "a", "./a", "a", "../../a", "a", "././a", "a", ".././../a", "a", "./../a/b", "a/b")
	undots(t, "..//a", "/a", ".//a", "/a", "../..", "", "../.", "", "./..", "", "./.", "", ".././", "")
	undots(t, "../a/..", "/", "./a/../b", "/b", "..//..", "/", ".//.", "/")
	undots(t, "/../a", "/a", "/./a", "/a", "/../../a", "/a", "/././a", "/a", "/.././../a", "/a")
}

func TestDotsInTheMiddle(t *testing.T) { // L3: /./ becomes /, and so does /../, with what is ahead of it
	undots(t, "a/./b", "a/b", "/a/./b", "/a/b", "a/././b", "a/b", "/a/./././b", "/a/b")
	undots(t, "a/../b", "/b", "/a/../b", "/b", "a/b/../c", "a/c", "/a/b/../c", "/a/c", "a/b/../../c", "/c", "/a/b/../../c", "/c")
	undots(t, "a/./../b", "/b", "/a/./../b", "/b", "a/.././b", "/b", "/a/.././b", "/b", "/a/b/../c/../d", "/a/d", "a/b/../c/../d", "a/d")
}

func TestDotsAtTheEnd(t *testing.T) { // L3: and as all of a text
	undots(t, ".", "", "..", "", "/.", "/", "/..", "/")
	undots(t, "a/.", "a/", "/a/.", "/a/", "a/b/.", "a/b/", "/a/b/.", "/a/b/", "a/./.", "a/")
	undots(t, "a/..", "/", "/a/..", "/", "a/b/..", "a/", "/a/b/..", "/a/", "a/b/../..", "/", "/a/b/../..", "/", "/a/b/../.", "/a/", "/a/b/./..", "/a/")
	undots(t, "a/./", "a/", "/a/./", "/a/", "a/../", "/", "/a/../", "/", "/a/b/../", "/a/", "/./", "/", "/../", "/")
}

func TestMoreThanThereIs(t *testing.T) { // L3: more .. than there is to go
	undots(t, "/../..", "/", "/../../", "/", "/../../..", "/", "/a/../../b", "/b", "a/../../b", "/b", "/a/../..", "/", "a/../..", "/")
	undots(t, "/a/b/../../../../c", "/c", "a/b/../../../../c", "/c", "../../../c", "c", "a/../../../b/../c", "/c", "/../a/../../b", "/b")
	undots(t, strings.Repeat("../", 1000)+"a", "a", strings.Repeat("/..", 1000)+"/a", "/a", "a/b"+strings.Repeat("/..", 1000), "/")
}

func TestEmptyPieces(t *testing.T) { // L3: a piece may be empty, and be taken away
	undots(t, "//", "//", "///", "///", "//a", "//a", "a//", "a//", "a//b", "a//b", "/a//b//", "/a//b//")
	undots(t, "//..", "/", "//../a", "/a", "///..", "//", "///../a", "//a", "a//..", "a/", "a//../b", "a/b", "/a//../b", "/a/b", "/a//../../b", "/b")
	undots(t, "//.", "//", "//./a", "//a", "a//.", "a//", "/./", "/", "/.//", "//", "/.//a", "//a", "/..//", "//", "/..//a", "//a", "a/..//b", "//b", "a/.//b", "a//b")
}

func TestPiecesThatBeginWithADot(t *testing.T) { // L3: they stay
	undots(t, ".a", ".a", "..a", "..a", "...", "...", "....", "....", ".a/", ".a/", "..a/b", "..a/b", ".../b", ".../b", "/.a", "/.a", "/..a", "/..a",
		"/...", "/...", "/.../", "/.../", "/.a/..b/...", "/.a/..b/...", "a/.b", "a/.b", "a/..b", "a/..b", "a/...", "a/...")
	undots(t, "a.", "a.", "a..", "a..", "a./b", "a./b", "a../b", "a../b", "/a./b", "/a./b", "/a../b", "/a../b", "/a./..", "/", "/a../.", "/a../")
	undots(t, ".../..", "/", ".a/../b", "/b", "/.../../b", "/b", "/a/..b/../c", "/a/c", "./.a", ".a", "../..a", "..a", "/./.a", "/.a", "/../..a", "/..a")
	undots(t, "%2E", "%2E", "%2e%2e/a", "%2e%2e/a", "/a/%2E%2E/b", "/a/%2E%2E/b", ".%2E/a", ".%2E/a") // and so does a dot that is told by its number
	undots(t, ".?", ".?", "../?", "?", "..#/", "..#/", ".\x00", ".\x00", "/.\xff/", "/.\xff/", "é/../é", "/é", "/é/./é", "/é/é", "\xff/..", "/", "..\\a", "..\\a")
}

func TestEachPath(t *testing.T) { // L3: of a few pieces
	check := func(s string) {
		if got, want := locator.Dots(s), dots(s); got != want {
			t.Fatalf("Dots %q: %q, not %q", s, got, want)
		}
	}
	texts([]string{"/", ".", "a"}, 10, check)
	texts([]string{"/", ".", "..", "/.", "/..", "./", "../", "b", "%2E"}, 5, check)
}

func TestEachPathByPieces(t *testing.T) { // L3: where a path begins with /, the pieces between can be gone through one by one
	texts([]string{"/", "/.", "/..", "/a", "/...", "/.a"}, 6, func(s string) {
		if s == "" {
			return
		}
		var left []string
		all := strings.Split(s[1:], "/")
		for i, x := range all {
			if x == ".." && len(left) > 0 {
				left = left[:len(left)-1]
			}
			if x != "." && x != ".." {
				left = append(left, x)
			} else if i == len(all)-1 {
				left = append(left, "")
			}
		}
		if got, want := locator.Dots(s), "/"+strings.Join(left, "/"); got != want {
			t.Fatalf("Dots %q: %q, not %q", s, got, want)
		}
	})
}

func TestPathsAsTheLibraryHasThem(t *testing.T) { // L3: where no piece is empty, Go's own library takes them away, too
	texts([]string{"/.", "/..", "/a", "/b.c", "/...", "/..d"}, 6, func(s string) {
		if s == "" {
			return
		}
		want := (&url.URL{Scheme: "x", Host: "h"}).ResolveReference(&url.URL{Path: s}).Path
		if got := locator.Dots(s); got != want {
			t.Fatalf("Dots %q: %q, not %q", s, got, want)
		}
	})
}

func TestLongPaths(t *testing.T) { // L3: it ends, however many pieces there are
	const n = 200000
	undots(t, strings.Repeat("/a/..", n), "/", strings.Repeat("/.", n), "/", strings.Repeat("/..", n), "/", strings.Repeat("../", n), "")
	undots(t, strings.Repeat("/a", n)+strings.Repeat("/..", n), "/", strings.Repeat("a/", n), strings.Repeat("a/", n), strings.Repeat("/", n), strings.Repeat("/", n))
	undots(t, strings.Repeat("a", n)+"/..", "/", strings.Repeat(".", n), strings.Repeat(".", n), "/"+strings.Repeat("a", n)+"/../b", "/b")
}
