package etag_test

import (
	"net/http"
	"net/http/httptest"
	"strings"
	"testing"
	"time"

	"broadsheet/api"
)

// wrong are texts that are no lists, but are not empty.
func wrong() []string {
	return []string{"x", " ", ",", "a", `"a`, `a"`, `w/"a"`, `W/ "a"`, `"a" "a"`, `*, "a"`, `"a", *`, "**", `"a b"`, `"a", x`, "\t", `"a""a"`, "\"\x7f\""}
}

// each calls f with each pair of bools.
func each(f func(a, b bool)) {
	f(false, false)
	f(false, true)
	f(true, false)
	f(true, true)
}

// hit is 304 or 412, as what was asked is a get or not.
func hit(get bool) int {
	if get {
		return 304
	}
	return 412
}

func TestMayWithoutConditions(t *testing.T) { // Q4: both empty
	for _, x := range []api.Tag{{}, strong("a"), weak("a"), strong("a b")} {
		each(func(there, get bool) { says(t, 0, "", "", x, there, get) })
	}
}

func TestMatchAlone(t *testing.T) { // Q4
	for _, get := range []bool{false, true} {
		for _, s := range []string{`"a"`, `"b","a"`, `"a","b"`, ` "a" `, `W/"a","a"`, `,"a",`, "*", " *\t"} {
			says(t, 0, s, "", strong("a"), true, get)
			says(t, 412, s, "", strong("a"), false, get) // nothing is there
		}
		for _, s := range []string{`"b"`, `W/"a"`, `W/"a",W/"a"`, `""`, `"A"`, `"a,b"`, `"*"`, `"aa"`} {
			says(t, 412, s, "", strong("a"), true, get)
			says(t, 412, s, "", strong("a"), false, get)
		}
		for _, s := range []string{`"a"`, `W/"a"`, `"a",W/"a"`} { // a weak one is matched by a star alone
			says(t, 412, s, "", weak("a"), true, get)
			says(t, 0, "*", "", weak("a"), true, get)
		}
	}
}

func TestNoneAlone(t *testing.T) { // Q4
	for _, get := range []bool{false, true} {
		for _, s := range []string{`"a"`, `W/"a"`, `"b","a"`, `W/"b" , W/"a"`, `"a",`, "*", "\t* "} {
			for _, x := range []api.Tag{strong("a"), weak("a")} {
				says(t, hit(get), "", s, x, true, get)
				says(t, 0, "", s, x, false, get)
			}
		}
		for _, s := range []string{`"b"`, `W/"b"`, `""`, `"A"`, `"a,b"`, `"*"`} {
			for _, x := range []api.Tag{strong("a"), weak("a")} {
				says(t, 0, "", s, x, true, get)
				says(t, 0, "", s, x, false, get)
			}
		}
	}
}

func TestWrongConditions(t *testing.T) { // Q4: alone, and beside a right one
	for _, s := range wrong() {
		each(func(there, get bool) {
			for _, x := range []api.Tag{strong("a"), weak("a"), {}, strong("x"), strong(s)} {
				says(t, 400, s, "", x, there, get)
				says(t, 400, "", s, x, there, get)
				for _, y := range wrong() {
					says(t, 400, s, y, x, there, get)
				}
				for _, y := range []string{`"a"`, `W/"a"`, `"b"`, "*"} {
					says(t, 400, s, y, x, there, get) // match is first, so whatever none tells is not asked
				}
			}
		})
	}
}

func TestWhichIsTold(t *testing.T) { // Q4: when two would be
	a := strong("a")
	for _, s := range wrong() {
		for _, get := range []bool{false, true} {
			says(t, 400, `"a"`, s, a, true, get) // match holds, so none is asked
			says(t, 400, "*", s, a, true, get)
			says(t, 400, "*", s, weak("a"), true, get)
			says(t, 412, `"b"`, s, a, true, get) // match does not hold: none is not asked
			says(t, 412, `W/"a"`, s, a, true, get)
			says(t, 412, `"a"`, s, a, false, get)
			says(t, 412, "*", s, a, false, get)
			says(t, 412, `"a"`, s, weak("a"), true, get)
		}
	}
	for _, none := range []string{`"a"`, `W/"a"`, "*", `"b", W/"a"`} {
		for _, get := range []bool{false, true} {
			says(t, hit(get), `"a"`, none, a, true, get)
			says(t, hit(get), "*", none, a, true, get)
			says(t, hit(get), "*", none, weak("a"), true, get)
			says(t, 412, `"b"`, none, a, true, get) // and not 304
			says(t, 412, `W/"a"`, none, a, true, get)
			says(t, 412, `"a"`, none, weak("a"), true, get)
			says(t, 412, `"a"`, none, a, false, get)
			says(t, 412, "*", none, a, false, get)
		}
	}
	each(func(_, get bool) {
		says(t, 0, `"a"`, `"b"`, a, true, get)
		says(t, 0, "*", `"b"`, a, true, get)
		says(t, 0, "*", `"b"`, weak("a"), true, get)
		says(t, 412, `"b"`, `"b"`, a, true, get)
		says(t, 412, `"b"`, `"c"`, a, true, get)
		says(t, 412, `"a"`, `"b"`, a, false, get)
	})
}

// conditions are texts, right and wrong, of which each pair is asked.
func conditions() []string {
	l := append(wrong(), "")
	texts("", []string{`"a"`, `W/"a"`, `"b"`, `""`, `W/""`, "*", ", ", "W/"}, 3, func(s string) { l = append(l, s) })
	return l
}

func TestMayOfEach(t *testing.T) { // Q4: of each two conditions
	tags := []api.Tag{strong("a"), weak("a"), strong("c"), {}, {Weak: true}}
	l := conditions()
	few := l[:len(wrong())+100]
	for _, match := range l {
		for _, none := range few {
			for _, x := range tags {
				each(func(there, get bool) {
					says(t, may(match, none, x, there, get), match, none, x, there, get)
				})
			}
		}
	}
}

func TestMayOfMuch(t *testing.T) { // Q4: no length is too great
	all := strings.Repeat(`"b", W/"a",`, 100000)
	says(t, 412, all, "", strong("a"), true, true)
	says(t, 0, all+`"a"`, "", strong("a"), true, true)
	says(t, 304, all+`"a"`, all, strong("a"), true, true)
	says(t, 400, all+"x", "", strong("a"), true, true)
	says(t, 400, "", all+"x", strong("a"), true, true)
}

// libraryMay is what Go's own library answers to two right conditions about what is there: 200 in the place of 0.
func libraryMay(t *testing.T, match, none string, x api.Tag, get bool) int {
	t.Helper()
	method := http.MethodPut
	if get {
		method = http.MethodGet
	}
	ask := httptest.NewRequest(method, "/c", nil)
	answer := httptest.NewRecorder()
	if match != "" {
		ask.Header.Set("If-Match", match)
	}
	if none != "" {
		ask.Header.Set("If-None-Match", none)
	}
	s, e := printed(x)
	if e != api.OK {
		t.Fatalf("%s has no text", shown(x))
	}
	answer.Header().Set("Etag", s)
	http.ServeContent(answer, ask, "x.txt", time.Time{}, strings.NewReader("x"))
	return answer.Code
}

func TestAsTheLibraryAnswers(t *testing.T) { // Q4: where both lists are right, and something is there
	var l []string
	texts("", []string{`"a"`, `W/"a"`, `"b,"`, "\"\xff\"", `""`, " , ", ","}, 3, func(s string) {
		if _, _, e := listed(s); e == api.OK {
			l = append(l, s)
		}
	})
	l = append(l, "", "*", " *\t")
	count := 0
	for _, match := range l {
		for _, none := range l {
			for _, x := range []api.Tag{strong("a"), weak("a"), strong("b,"), weak("\xff"), {}} {
				for _, get := range []bool{false, true} {
					want := libraryMay(t, match, none, x, get)
					if want == 200 {
						want = 0
					}
					says(t, want, match, none, x, true, get)
					count++
				}
			}
		}
	}
	if count < 10000 {
		t.Errorf("%d pairs alone", count)
	}
}
