package etag_test

import (
	"testing"

	"broadsheet/api"
)

func TestHas(t *testing.T) { // Q3: tags of the same Value, weak on either side
	a, b := strong("a"), strong("b")
	for _, x := range []struct {
		list       []api.Tag
		tag        api.Tag
		held, weak bool // whether it is had, weak being false and true
	}{
		{[]api.Tag{a}, a, true, true},
		{[]api.Tag{a}, weak("a"), false, true},
		{[]api.Tag{weak("a")}, a, false, true},
		{[]api.Tag{weak("a")}, weak("a"), false, true},
		{[]api.Tag{a}, b, false, false},
		{[]api.Tag{weak("a")}, b, false, false},
		{[]api.Tag{weak("a")}, weak("b"), false, false},
		{[]api.Tag{weak("b"), a}, a, true, true},
		{[]api.Tag{weak("a"), a}, a, true, true}, // one that counts is enough, wherever it stands
		{[]api.Tag{a, weak("a")}, a, true, true},
		{[]api.Tag{weak("a"), a}, weak("a"), false, true},
		{[]api.Tag{b, b, b, a}, a, true, true},
		{[]api.Tag{a, b, b, b}, a, true, true},
		{[]api.Tag{b, weak("a"), b}, a, false, true},
		{[]api.Tag{b, weak("b"), b}, a, false, false},
		{nil, a, false, false},
		{nil, api.Tag{}, false, false},
		{nil, weak("a"), false, false},
		{[]api.Tag{}, a, false, false},
		{[]api.Tag{{}}, api.Tag{}, true, true}, // an empty Value is one
		{[]api.Tag{{}}, a, false, false},
		{[]api.Tag{a}, api.Tag{}, false, false},
		{[]api.Tag{{Weak: true}}, api.Tag{}, false, true},
	} {
		holds(t, x.held, x.list, false, x.tag, true, false)
		holds(t, x.weak, x.list, false, x.tag, true, true)
		for _, weak := range []bool{false, true} {
			holds(t, false, x.list, false, x.tag, false, weak) // nothing is there
			holds(t, false, x.list, true, x.tag, false, weak)
			holds(t, true, x.list, true, x.tag, true, weak) // a star, whatever is in the list
		}
	}
}

func TestHasByTheVeryValue(t *testing.T) { // Q3: bytes count, be they a tag's or not
	l := []string{"", "a", "A", "aa", "a ", " a", "a,b", "b,a", "*", "W/", "W/a", `"a"`, "é", "É", "e\u0301", "\xff", "\xfe", "\uFFFD", "\x00", "k", "\u212A"}
	for _, x := range l {
		for _, y := range l {
			holds(t, x == y, []api.Tag{strong(x)}, false, strong(y), true, false)
			holds(t, x == y, []api.Tag{strong(x)}, false, strong(y), true, true)
			holds(t, x == y, []api.Tag{weak(x)}, false, strong(y), true, true)
			holds(t, x == y, []api.Tag{weak(x)}, false, weak(y), true, true)
			holds(t, false, []api.Tag{weak(x)}, false, weak(y), true, false)
		}
	}
}

// lists calls f with every list of up to n of the tags, behind head.
func lists(head, tags []api.Tag, n int, f func([]api.Tag)) {
	f(head)
	if n == 0 {
		return
	}
	for _, x := range tags {
		lists(append(head[:len(head):len(head)], x), tags, n-1, f)
	}
}

func TestHasOfEach(t *testing.T) { // Q3: of lists of a few tags
	tags := []api.Tag{strong("a"), weak("a"), strong("b"), weak("b"), {}, {Weak: true}}
	lists(nil, tags, 4, func(l []api.Tag) {
		for _, x := range append(tags, strong("c"), weak("c")) {
			for n := range 8 {
				star, there, weak := n&1 != 0, n&2 != 0, n&4 != 0
				holds(t, has(l, star, x, there, weak), l, star, x, there, weak)
			}
		}
	})
}

func TestHasOfMany(t *testing.T) { // Q3: no list is too long
	l := make([]api.Tag, 100000)
	for i := range l {
		l[i] = weak("a")
	}
	holds(t, false, l, false, strong("a"), true, false)
	holds(t, true, l, false, strong("a"), true, true)
	holds(t, false, l, false, strong("b"), true, true)
	l[len(l)-1] = strong("a")
	holds(t, true, l, false, strong("a"), true, false)
}
