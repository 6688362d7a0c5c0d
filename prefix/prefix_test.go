package prefix_test

import (
	"fmt"
	"slices"
	"strings"
	"testing"

	"broadsheet/api"
	"broadsheet/prefix"
)

// splits fails unless Split answers those.
func splits(t *testing.T, s, ahead, local string, want api.Errno) {
	t.Helper()
	if p, n, e := prefix.Split(s); p != ahead || n != local || e != want {
		t.Fatalf("Split %.200q: %.200q, %.200q, %d, not %.200q, %.200q, %d", s, p, n, e, ahead, local, want)
	}
}

// splitsAsSaid fails unless Split answers what the chapter's words ask.
func splitsAsSaid(t *testing.T, s string) {
	t.Helper()
	ahead, local, e := split(s)
	splits(t, s, ahead, local, e)
}

// plains are plain names, those that mean something among them.
func plains() []string {
	return []string{"a", "Z", "_", "b1", "x-1.", "xml", "xmlns", "XML", "Xmlns", "xmlnsa", "é", "\u00C0\u00B7", "a\u0300\u203F", "\uFFFD", "😀", "\U000EFFFF", "a\uFF1Ab"} // the last one's colon is none
}

// wrongs are what is no plain name, though some of them have a colon where Split may look for it.
func wrongs() []string {
	return []string{"", " ", "1", "-", ".", "-a", ".a", "1a", "a b", " a", "a ", "a\n", "\ta", "a=", "a/", "<a", "a'", "&a", "a\x00", "\x00",
		"\u00B7", "\u00B7a", "\u0300a", "×", "a×", "a\u2028", "a\uFFFE", "\U000F0000",
		"\xFF", "a\xFF", "\xFFa", "a\xFFb", "\xC3", "a\xC3", "é\xA9", "a\xEF\xBF", "a\xC1\xBAb", "a\xC0\xBAb", "a\xED\xA0\x80", "\xF4\x90\x80\x80"}
}

func TestSplitWithoutAColon(t *testing.T) { // H1
	for _, s := range plains() {
		splits(t, s, "", s, api.OK)
	}
	for _, s := range wrongs() {
		splits(t, s, "", "", api.ErrPrefix)
	}
}

func TestSplitWithAColon(t *testing.T) { // H1: what stands ahead and what stands behind may be the same, or not
	for _, a := range plains() {
		for _, b := range plains() {
			splits(t, a+":"+b, a, b, api.OK)
		}
		for _, b := range wrongs() {
			splits(t, a+":"+b, "", "", api.ErrPrefix)
			splits(t, b+":"+a, "", "", api.ErrPrefix)
		}
	}
	for _, a := range wrongs() {
		for _, b := range wrongs() {
			splits(t, a+":"+b, "", "", api.ErrPrefix)
		}
	}
}

func TestSplitWithColonsMore(t *testing.T) { // H1
	for _, s := range []string{":", "::", ":::", "a:", ":a", "::a", "a::", "a::b", ":a:", ":a:b", "a:b:", "a:b:c", "a:b:c:d", "xml:a:b", "xmlns:a:b", ":xmlns", "xmlns:", "é::é", " :a", "a: ", "a :b", "a: b", "a\n:b"} {
		splits(t, s, "", "", api.ErrPrefix)
	}
	s := "aé-1.\uFFFD\u00B7😀z"
	for i := range len(s) + 1 {
		one := s[:i] + ":" + s[i:]
		splitsAsSaid(t, one)
		for k := range len(one) + 1 {
			splits(t, one[:k]+":"+one[k:], "", "", api.ErrPrefix)
		}
	}
}

func TestSplitOfPieces(t *testing.T) { // H1
	texts([]string{"a", "Z", "_", "xml", "xmlns", ":", "-", "0", "é", "\u00B7", "\uFFFD", "😀", " ", "\n", "\x00", "×", "\x80", "\xC3", "\xEF\xBF", "\xFF"}, 4, func(s string) { splitsAsSaid(t, s) })
}

func TestSplitOfBytes(t *testing.T) { // H1: each byte at each place
	for a := range 256 {
		x := string([]byte{byte(a)})
		for _, s := range []string{x, x + "a", "a" + x, "a" + x + "b", x + ":b", x + "a:b", "a" + x + ":b", "a:" + x, "a:" + x + "b", "a:b" + x, ":" + x, x + ":"} {
			splitsAsSaid(t, s)
		}
		for b := range 256 {
			y := string([]byte{byte(a), byte(b)})
			splitsAsSaid(t, y)
			splitsAsSaid(t, "a"+y+"b")
			splitsAsSaid(t, y+":a")
			splitsAsSaid(t, "a:"+y)
		}
	}
}

func TestSplitOfPoints(t *testing.T) { // H1: names beyond ASCII
	for c := rune(0); c < 0x110000; c += 1 + c>>12 {
		x := string(c)
		splitsAsSaid(t, x)
		splitsAsSaid(t, x+":a")
		splitsAsSaid(t, "a:"+x)
		splitsAsSaid(t, "a"+x+":a"+x)
	}
	long := strings.Repeat("aé", 100000)
	splits(t, long, "", long, api.OK)
	splits(t, long+":b", long, "b", api.OK)
	splits(t, "b:"+long, "b", long, api.OK)
	splits(t, "b:"+long+":", "", "", api.ErrPrefix)
	splits(t, long+" :b", "", "", api.ErrPrefix)
}

// shown is a list as a failure tells it.
func shown(l []api.Pair) string { return fmt.Sprintf("%.300q", fmt.Sprint(l)) }

// declares fails unless Declare answers that scope and those others.
func declares(t *testing.T, l, scope, rest []api.Pair) {
	t.Helper()
	answersDeclare(t, l, scope, rest, api.OK)
}

// refuses fails unless Declare answers ErrPrefix, and nothing beside it.
func refuses(t *testing.T, l []api.Pair) {
	t.Helper()
	answersDeclare(t, l, nil, nil, api.ErrPrefix)
}

// declaresAsSaid fails unless Declare answers what the chapter's words ask.
func declaresAsSaid(t *testing.T, l []api.Pair) {
	t.Helper()
	scope, rest, e := declare(l)
	answersDeclare(t, l, scope, rest, e)
}

func answersDeclare(t *testing.T, l, scope, rest []api.Pair, want api.Errno) {
	t.Helper()
	if s, r, e := prefix.Declare(l); !slices.Equal(s, scope) || !slices.Equal(r, rest) || e != want {
		t.Fatalf("Declare %s: %s, %s, %d, not %s, %s, %d", shown(l), shown(s), shown(r), e, shown(scope), shown(rest), want)
	}
}

// attributes are names of attributes: that declare, that may not, that do not, and that are none.
func attributes() []string {
	return []string{"a", "é", "p:a", "q:a", "xml:lang", "xml:xmlns", "p:xmlns", "xml", "xml:xml", "XMLNS", "Xmlns", "xmlNS", "XMLNS:p", "Xmlns:p", "xmlnsa", "xmlnsa:p", "xmlns-p", "axmlns", "a-xmlns:p", "xmlns.",
		"xmlns", "xmlns:p", "xmlns:q", "xmlns:é", "xmlns:xml", "xmlns:xmlns", "xmlns:XML", "xmlns:Xml", "xmlns:xmlx", "xmlns:xm", "xmlns:Xmlns", "xmlns:XMLNS", "xmlns:xmlnss", "xmlns:_",
		"", ":", "1", ":a", "a:", "a:b:c", "xmlns:", ":xmlns", "xmlns:1", "xmlns:a:b", "xmlns:xml:a", "xmlns::", "xmlns ", " xmlns", "xmlns: p", "\xFF", "xmlns:\xFF", "a b"}
}

// spaces are values: the ones that mean something, and what is like them.
func spaces() []string {
	return []string{"", "u", "v", " ", "\t", "\x00", "\xFF", "é", "xml", "xmlns", "&", xmls, xmlnss, xmls + "/", xmls + "#", xmls + " ", " " + xmls, xmls[1:], xmls[:len(xmls)-1], xmls[:len(xmls)-1] + "E",
		strings.ToUpper(xmls), strings.ToLower(xmls), strings.Replace(xmls, "http", "https", 1), xmlnss + "/", xmlnss + " ", " " + xmlnss, xmlnss[1:], xmlnss[:len(xmlnss)-1], strings.ToUpper(xmlnss),
		strings.Replace(xmlnss, "http", "https", 1), xmls + xmlnss, strings.Repeat("u", 1000)}
}

func TestDeclareOfNothing(t *testing.T) { // H2
	declares(t, nil, nil, nil)
	declares(t, []api.Pair{}, nil, nil)
}

func TestDeclare(t *testing.T) { // H2
	for _, x := range []struct{ l, scope, rest []api.Pair }{
		{pairs("a", "1"), nil, pairs("a", "1")},
		{pairs("b", "2", "a", "1", "c", ""), nil, pairs("b", "2", "a", "1", "c", "")},
		{pairs("xmlns", "u"), pairs("", "u"), nil},
		{pairs("xmlns", ""), pairs("", ""), nil},
		{pairs("xmlns:p", "u"), pairs("p", "u"), nil},
		{pairs("xmlns:q", "u", "xmlns", "v", "xmlns:p", "u"), pairs("q", "u", "", "v", "p", "u"), nil},
		{pairs("xmlns:p", "u", "xmlns:p", "v", "xmlns:p", "u"), pairs("p", "u", "p", "v", "p", "u"), nil},
		{pairs("xmlns", "u", "xmlns", ""), pairs("", "u", "", ""), nil},
		{pairs("xmlns:xml", xmls), pairs("xml", xmls), nil},
		{pairs("a", "1", "xmlns:p", "u", "p:a", "2", "xmlns", "v", "b", "3"), pairs("p", "u", "", "v"), pairs("a", "1", "p:a", "2", "b", "3")},
		{pairs("xmlns:p", "u", "a", "1", "xmlns:q", "v"), pairs("p", "u", "q", "v"), pairs("a", "1")},
		{pairs("p:a", "1", "q:b", "2"), nil, pairs("p:a", "1", "q:b", "2")}, // whether they are bound is not asked here
		{pairs("a", "1", "a", "1", "a", "2"), nil, pairs("a", "1", "a", "1", "a", "2")},
		{pairs("xml:lang", "en", "xml:a", xmls, "xml:xmlns", xmlnss), nil, pairs("xml:lang", "en", "xml:a", xmls, "xml:xmlns", xmlnss)},
		{pairs("p:xmlns", xmls, "xml", "u", "a", xmls, "b", xmlnss), nil, pairs("p:xmlns", xmls, "xml", "u", "a", xmls, "b", xmlnss)},
		{pairs("XMLNS", "u", "XMLNS:p", "", "xmlnsa", xmls, "xmlnsa:p", ""), nil, pairs("XMLNS", "u", "XMLNS:p", "", "xmlnsa", xmls, "xmlnsa:p", "")},
		{pairs("xmlns:é", "\xFF", "xmlns:XML", "u", "xmlns:Xmlns", "v"), pairs("é", "\xFF", "XML", "u", "Xmlns", "v"), nil},
		{pairs("xmlns", " ", "xmlns:p", " ", "xmlns:q", "p"), pairs("", " ", "p", " ", "q", "p"), nil},
		{pairs("xmlns", xmls+"/", "xmlns:p", xmlnss[:len(xmlnss)-1]), pairs("", xmls+"/", "p", xmlnss[:len(xmlnss)-1]), nil},
	} {
		declares(t, x.l, x.scope, x.rest)
	}
}

// never are attributes that Declare refuses, each for another reason.
func never() []api.Pair {
	return pairs("xmlns:xmlns", "u", "xmlns:xmlns", "", "xmlns:xmlns", xmls, "xmlns:xmlns", xmlnss,
		"xmlns:xml", "u", "xmlns:xml", "", "xmlns:xml", xmlnss, "xmlns:xml", xmls+"/", "xmlns:xml", strings.ToUpper(xmls),
		"xmlns:p", xmls, "xmlns:p", xmlnss, "xmlns:p", "", "xmlns:XML", xmls, "xmlns:XML", "", "xmlns:Xmlns", xmlnss, "xmlns:é", "",
		"xmlns", xmls, "xmlns", xmlnss,
		"", "u", ":", "u", "a:", "u", ":a", "u", "a:b:c", "u", "1", "u", "a b", "u", "\xFF", "u", "xmlns:", "u", ":xmlns", "u", "xmlns:1", "u", "xmlns:a:b", "u", "xmlns:\xFF", "u", "xmlns ", "u", "xml:", xmls, "xmlns:xml:", xmls)
}

func TestDeclareOfWhatMayNotBe(t *testing.T) { // H2: at each place; all else is empty
	good := pairs("a", "1", "xmlns", "u", "xmlns:p", "v", "p:a", "2", "xmlns:xml", xmls, "xmlns", "")
	declaresAsSaid(t, good)
	for _, a := range never() {
		for i := range len(good) + 1 {
			refuses(t, slices.Insert(slices.Clone(good), i, a))
			refuses(t, append(slices.Clone(good[:i]), a))
			refuses(t, append([]api.Pair{a}, good[i:]...))
		}
		for _, b := range never() {
			refuses(t, []api.Pair{a, b})
			refuses(t, append(slices.Insert(slices.Clone(good), 0, a), b))
		}
	}
}

func TestDeclareOfEachPair(t *testing.T) { // H2: each name with each space, and behind others
	all := each(attributes(), spaces())
	for _, a := range all {
		declaresAsSaid(t, []api.Pair{a})
		for _, b := range pairs("a", "1", "xmlns:p", "u", "xmlns", "v", "xmlns:p", "", "xmlns:xml", xmls, "a:b:c", "") {
			declaresAsSaid(t, []api.Pair{a, b})
			declaresAsSaid(t, []api.Pair{b, a})
			declaresAsSaid(t, []api.Pair{b, a, b})
		}
	}
}

func TestDeclareOfLists(t *testing.T) { // H2
	lists(append(few(), pairs("xmlns:q", "", "xmlns:xmlns", "u", "xmlns:xml", "u", "xmlns", xmls, "a:b:c", "1")...), 4, func(l []api.Pair) { declaresAsSaid(t, l) })
}

// few are attributes that Declare takes: some declare, some do not.
func few() []api.Pair {
	return pairs("a", "1", "p:a", "2", "xml:lang", "en", "xmlns", "u", "xmlns", "", "xmlns:p", "u", "xmlns:p", "v", "xmlns:q", "w", "xmlns:xml", xmls)
}

// resolves fails unless Resolve answers those.
func resolves(t *testing.T, scope []api.Pair, s string, attr bool, space, local string, want api.Errno) {
	t.Helper()
	if u, n, e := prefix.Resolve(scope, s, attr); u != space || n != local || e != want {
		t.Fatalf("Resolve %s, %q, %v: %q, %q, %d, not %q, %q, %d", shown(scope), s, attr, u, n, e, space, local, want)
	}
}

// resolvesAsSaid fails unless Resolve answers what the chapter's words ask, of elements and attributes.
func resolvesAsSaid(t *testing.T, scope []api.Pair, s string) {
	t.Helper()
	for _, attr := range []bool{false, true} {
		space, local, e := resolve(scope, s, attr)
		resolves(t, scope, s, attr, space, local, e)
	}
}

func TestResolveOfPrefixes(t *testing.T) { // H3: an attribute's is an element's
	for _, x := range []struct {
		scope        []api.Pair
		s            string
		space, local string
	}{
		{pairs("a", "u"), "a:b", "u", "b"},
		{pairs("a", "u"), "a:a", "u", "a"},
		{pairs("a", "u", "b", "v"), "a:b", "u", "b"},
		{pairs("a", "u", "b", "v"), "b:a", "v", "a"},
		{pairs("a", "u", "b", "u"), "b:a", "u", "a"},
		{pairs("a", "u", "a", "v"), "a:b", "v", "b"},
		{pairs("a", "u", "b", "w", "a", "v", "b", "x"), "a:b", "v", "b"},
		{pairs("a", "", "a", "v"), "a:b", "v", "b"},
		{pairs("a", "v", "a", "", "a", "v"), "a:b", "v", "b"},
		{pairs("a", "u", "", "v"), "a:b", "u", "b"},
		{pairs("a", " ", "A", "v"), "a:b", " ", "b"},
		{pairs("a", "b"), "a:xmlns", "b", "xmlns"},
		{pairs("é", "\xFF"), "é:x-1", "\xFF", "x-1"},
		{pairs("a", xmls), "a:b", xmls, "b"}, // a scope is asked alone, not whether somebody may declare it
		{pairs("a", xmlnss), "a:b", xmlnss, "b"},
		{pairs("XML", "u", "xml", "v"), "XML:b", "u", "b"},
		{pairs("Xmlns", "u"), "Xmlns:b", "u", "b"},
		{nil, "xml:lang", xmls, "lang"},
		{pairs("xml", xmls), "xml:a", xmls, "a"},
		{pairs("xml", "u"), "xml:a", xmls, "a"},
		{pairs("xml", ""), "xml:xmlns", xmls, "xmlns"},
		{pairs("", "u", "a", "v"), "xml:xml", xmls, "xml"},
	} {
		resolves(t, x.scope, x.s, false, x.space, x.local, api.OK)
		resolves(t, x.scope, x.s, true, x.space, x.local, api.OK)
	}
}

func TestResolveWithoutAPrefix(t *testing.T) { // H3: an attribute's is in no space, whatever the scope says
	for _, x := range []struct {
		scope []api.Pair
		space string
	}{
		{nil, ""},
		{[]api.Pair{}, ""},
		{pairs("", "u"), "u"},
		{pairs("", ""), ""},
		{pairs("", "u", "", "v"), "v"},
		{pairs("", "u", "", ""), ""},
		{pairs("", "", "", "u"), "u"},
		{pairs("", "u", "a", "v"), "u"},
		{pairs("a", "v", "", "u", "b", "w"), "u"},
		{pairs("a", "v", "xml", "w", "xmlns", "x"), ""},
		{pairs("", " "), " "},
		{pairs("", xmls), xmls},
		{pairs("", xmlnss), xmlnss},
	} {
		for _, s := range plains() {
			resolves(t, x.scope, s, false, x.space, s, api.OK)
			resolves(t, x.scope, s, true, "", s, api.OK)
		}
	}
}

func TestResolveOfWhatMayNotBe(t *testing.T) { // H3
	for _, x := range []struct {
		scope []api.Pair
		s     string
	}{
		{nil, "a:b"},
		{pairs("", "u"), "a:b"},
		{pairs("b", "u"), "a:b"},
		{pairs("A", "u", "aa", "v", "a:b", "w", "a:", "x", ":a", "y", " a", "z"), "a:b"},
		{pairs("xml", "u"), "XML:b"},
		{pairs("a", ""), "a:b"},
		{pairs("a", "u", "a", ""), "a:b"},
		{pairs("a", "", "b", "u"), "a:b"},
		{pairs("", "u", "a", ""), "a:b"},
		{nil, "xmlns:a"},
		{nil, "xmlns:xmlns"},
		{pairs("xmlns", "u"), "xmlns:a"},
		{pairs("xmlns", xmlnss), "xmlns:xml"},
	} {
		resolves(t, x.scope, x.s, false, "", "", api.ErrPrefix)
		resolves(t, x.scope, x.s, true, "", "", api.ErrPrefix)
	}
	for _, scope := range [][]api.Pair{nil, pairs("", "u"), pairs("a", "u", "", "v"), pairs("xml", "u")} { // Split's error
		for _, s := range append(wrongs(), ":", ":a", "a:", "a:b:c", "a::b", "xml:", "xml:1", "xml:a:b", "xml: a", "xmlns:", ":xml", "a:\xFF", "\xFF:a", " a:b") {
			resolves(t, append(scope, pairs(s, "w")...), s, false, "", "", api.ErrPrefix)
			resolves(t, append(scope, pairs(s, "w")...), s, true, "", "", api.ErrPrefix)
		}
	}
}

// names are names of elements and attributes, and what is none.
func names() []string {
	return []string{"a", "xml", "xmlns", "p:a", "p:xmlns", "q:a", "P:a", "r:a", "xml:lang", "xml:xmlns", "xmlns:p", "xmlns:xml", "é:é", "", ":a", "p:", "p:a:b", "p: a"}
}

// bindings are pairs of a scope, those that nobody may declare among them.
func bindings() []api.Pair {
	return append(each([]string{"", "p", "q"}, []string{"", "u", "v"}), pairs("P", "w", "xml", "u", "xml", xmls, "xmlns", "u", "p", xmls, "", xmlnss, "p:a", "x", "a", "y")...)
}

func TestResolveOfScopes(t *testing.T) { // H3
	lists(bindings(), 3, func(scope []api.Pair) {
		for _, s := range names() {
			resolvesAsSaid(t, scope, s)
		}
	})
}

// ahead is the prefix of a name, and whether it is one.
func ahead(s string) (string, bool) {
	p, _, e := prefix.Split(s)
	return p, e == api.OK
}

func binds(scope []api.Pair, p string) bool {
	return slices.ContainsFunc(scope, func(b api.Pair) bool { return b.Name == p })
}

func TestPairsMoreBehindAScope(t *testing.T) { // H4: names of other prefixes stay; of the same one they alone count
	lists(bindings(), 2, func(scope []api.Pair) {
		lists(bindings(), 1, func(more []api.Pair) {
			both := append(slices.Clone(scope), more...)
			for _, s := range names() {
				as := scope
				if p, is := ahead(s); is && binds(more, p) {
					as = more
				}
				for _, attr := range []bool{false, true} {
					space, local, e := prefix.Resolve(as, s, attr)
					resolves(t, both, s, attr, space, local, e)
				}
			}
		})
	})
}

func TestWhatIsDeclaredIsResolved(t *testing.T) { // H4: in a scope of its own, and behind others
	lists(few(), 3, func(l []api.Pair) {
		scope, _, e := prefix.Declare(l)
		if e != api.OK {
			t.Fatalf("Declare %s: %d", shown(l), e)
		}
		for _, outer := range [][]api.Pair{nil, pairs("p", "old", "", "old", "q", "", "xml", "old")} {
			inner := append(slices.Clone(outer), scope...)
			for i, b := range scope {
				if binds(scope[i+1:], b.Name) {
					continue
				}
				s := b.Name + ":a"
				if b.Name == "" {
					s = "a"
				} else {
					resolves(t, inner, s, true, b.Value, "a", api.OK)
				}
				resolves(t, inner, s, false, b.Value, "a", api.OK)
			}
		}
	})
}

func TestEachPairThatIsDeclaredIsResolved(t *testing.T) { // H4
	for _, a := range each(attributes(), spaces()) {
		scope, _, e := prefix.Declare([]api.Pair{a})
		if e != api.OK || len(scope) == 0 {
			continue
		}
		if p := scope[0].Name; p == "" {
			resolves(t, scope, "a", false, a.Value, "a", api.OK)
			resolves(t, scope, "a", true, "", "a", api.OK)
		} else {
			resolves(t, scope, p+":a", false, a.Value, "a", api.OK)
			resolves(t, scope, p+":a", true, a.Value, "a", api.OK)
		}
	}
}

func TestAttributesThatDoNotDeclareStay(t *testing.T) { // H4: in their order, whatever is declared between them
	isOther := func(a api.Pair) bool { return a.Name == "a" || a.Name == "p:a" || a.Name == "xml:lang" }
	lists(few(), 4, func(l []api.Pair) {
		var others []api.Pair
		for _, a := range l {
			if isOther(a) {
				others = append(others, a)
			}
		}
		scope, rest, e := prefix.Declare(l)
		if !slices.Equal(rest, others) || len(scope)+len(rest) != len(l) || e != api.OK {
			t.Fatalf("Declare %s: %s, %s, %d", shown(l), shown(scope), shown(rest), e)
		}
		declares(t, rest, nil, others)
	})
}

// spoil writes into all of a list, and behind its length.
func spoil(l []api.Pair) {
	l = l[:cap(l)]
	for i := range l {
		l[i] = api.Pair{Name: "-", Value: "-"}
	}
}

func TestNothingIsWrittenInto(t *testing.T) { // H2, H3: nor is what stands behind a list; and what comes out is new
	whole := append(few(), pairs("xmlns:p", "", "xmlns", "x", "p:z", "9")...)
	was := slices.Clone(whole)
	for n := range len(whole) + 1 {
		scope, rest, _ := prefix.Declare(whole[:n])
		others := slices.Clone(rest)
		spoil(scope)
		if !slices.Equal(rest, others) {
			t.Fatalf("Declare %s: the scope stands in what does not declare", shown(was[:n]))
		}
		spoil(rest)
		prefix.Resolve(whole[:n], "p:a", false)
		prefix.Resolve(whole[:n], "a", true)
		if !slices.Equal(whole, was) {
			t.Fatalf("%s became %s", shown(was), shown(whole))
		}
	}
}

func TestLongLists(t *testing.T) { // H2, H3
	const n = 100000
	var l, scope, rest []api.Pair
	for i := range n {
		v := fmt.Sprint("u", i)
		scope = append(scope, api.Pair{Name: fmt.Sprint("p", i), Value: v})
		rest = append(rest, api.Pair{Name: fmt.Sprint("a", i), Value: v})
		l = append(l, api.Pair{Name: "xmlns:" + scope[i].Name, Value: v}, rest[i])
	}
	declares(t, l, scope, rest)
	refuses(t, append(l, api.Pair{Name: "xmlns:p"}))
	for _, i := range []int{0, 1, n / 2, n - 2, n - 1} {
		resolves(t, scope, fmt.Sprintf("p%d:a", i), false, fmt.Sprint("u", i), "a", api.OK)
	}
	resolves(t, scope, fmt.Sprintf("p%d:a", n), true, "", "", api.ErrPrefix)
	resolves(t, scope, "a", false, "", "a", api.OK)
}
