package grove_test

import (
	"slices"
	"strings"
	"testing"

	"broadsheet/api"
	"broadsheet/grove"
)

// abouts are what may stand about the element.
func abouts() []string {
	return []string{"", " ", "\n", "\r\n\t", "<!---->", "<!--<a>&x;]]>-->", "<?p?>", "<?p <a> ?>", "<!--c--><!--c-->", " <!--c--> <?p q?>\n", "<?p?><?q?><!--c-->"}
}

func TestWhatStandsAboutTheElement(t *testing.T) { // I2: it changes nothing
	for s, want := range trees() {
		for _, x := range abouts() {
			for _, y := range abouts() {
				is(t, x+s+y, want)
				is(t, "<?xml version='1.0'?>"+x+s+y, want)
			}
		}
	}
	for s, e := range faults() { // nor does it mend anything
		for _, x := range abouts() {
			refuses(t, x+"<a>"+s+"</a>"+x, e)
		}
	}
	for _, x := range abouts() {
		for _, y := range abouts() {
			refuses(t, x+y, api.ErrNest)
			refuses(t, x+"<a>"+y, api.ErrNest)
			refuses(t, x+"</a>"+y, api.ErrNest)
			refuses(t, x+"<a/>"+y+"<a/>", api.ErrNest)
			refuses(t, x+"<a/>"+y+"x"+x, api.ErrNest)
		}
	}
}

// more are elements whose spaces, and what else is in them, might be lost in another one.
func more() []string {
	return []string{"<p:a xmlns:p='u' p:b='1' b='2'><p:c xmlns:p='v'/><c/></p:a>", "<a xmlns='u'><b xmlns=''/></a>", "<a xmlns=''/>", "<xml:a xml:b='1'/>", "<a xmlns:p='u' xmlns:q='v'><p:b/><q:b p:c='' q:c=''>x</q:b></a>", "<w/>", "<w>x<w/></w>", "<a>&lt;<![CDATA[<]]></a>", nested(20, "x")}
}

func TestAnElementInAnotherOne(t *testing.T) { // I2: it is its kid, as it was
	all := more()
	for s := range trees() {
		all = append(all, s)
	}
	slices.Sort(all)
	for _, s := range all {
		n, e := grove.Parse(s)
		if e != api.OK {
			t.Fatalf("%q: %d", s, e)
		}
		is(t, "<w>"+s+"</w>", el("", "w", nil, n))
		is(t, "<w><a>"+s+"</a></w>", el("", "w", nil, el("", "a", nil, n)))
		is(t, "<a b='1'>"+s+"</a >", el("", "a", attrs("", "b", "1"), n))
		is(t, "<w>x"+s+"y</w>", el("", "w", nil, text("x"), n, text("y")))
		is(t, "<w><!--c-->"+s+"<?p?></w>", el("", "w", nil, comment("c"), n, instr("p", "")))
		for _, r := range all {
			m, _ := grove.Parse(r)
			is(t, "<w>"+s+r+"</w>", el("", "w", nil, n, m))
			refuses(t, s+r, api.ErrNest)
		}
	}
	for s, e := range faults() { // what is wrong, is so there, too
		if !strings.HasPrefix(s, "</a>") {
			refuses(t, "<w><a>"+s+"</a></w>", e)
		}
	}
	refuses(t, "<w>"+nested(30, "")+"</w>", api.ErrLong)
}

// prefixed is a document with P and Q in the place of its prefixes.
func prefixed(s, p, q string) string {
	return strings.NewReplacer("P", p, "Q", q).Replace(s)
}

func TestUnlikePrefixes(t *testing.T) { // I2: for the same spaces
	names := []string{"p", "q", "r", "é", "_", "a", "u", "XML", "xmlnsa", "p-1."}
	for _, s := range []string{
		"<P:a xmlns:P='u'/>",
		"<P:a xmlns:P='u'>x</P:a>",
		"<P:a xmlns:P='u' P:b='1' b='2'><P:c/></P:a>",
		"<P:a xmlns:P='u' xmlns:Q='v' P:b='1' Q:b='2'><Q:c P:d='3'/><P:c/></P:a>",
		"<Q:a xmlns:P='u' xmlns:Q='v'><P:c xmlns:P='w'><Q:d/><P:d/></P:c><P:c/></Q:a>",
		"<a xmlns:P='u'><Q:b xmlns:Q='v'><P:c/></Q:b></a>",
		"<a xmlns='u'><P:b xmlns:P='v' P:c='1'><d/></P:b></a>",
	} {
		want, e := grove.Parse(prefixed(s, "p", "q"))
		if e != api.OK {
			t.Fatalf("%q: %d", s, e)
		}
		for _, p := range names {
			for _, q := range names {
				if p != q {
					is(t, prefixed(s, p, q), want)
				}
			}
		}
	}
}

func TestTheSameSpacesOtherwise(t *testing.T) { // I2: through the default space, or declared somewhere else
	for _, same := range [][]string{
		{"<p:a xmlns:p='u'/>", "<a xmlns='u'/>", "<q:a xmlns:q='u' xmlns='v'></q:a>", "<a xmlns:p='v' xmlns='u'/>", "<a xmlns='&#117;'/>"},
		{"<p:a xmlns:p='u' p:b='1'/>", "<a xmlns='u' xmlns:p='u' p:b='1'/>", "<q:a xmlns:p='u' xmlns:q='u' p:b='1'/>", "<a p:b='1' xmlns:p='u' xmlns='u'></a>"},
		{"<p:a xmlns:p='u'><p:b>x</p:b></p:a>", "<a xmlns='u'><b>x</b></a>", "<a xmlns='u'><q:b xmlns:q='u'>x</q:b></a>", "<p:a xmlns:p='u'><b xmlns='u'>x</b></p:a>", "<p:a xmlns:p='u'><q:b xmlns:q='u' xmlns:p='v'>x</q:b></p:a>", "<p:a xmlns:p='u' xmlns='u'><b>x</b></p:a>"},
		{"<a><p:b xmlns:p='u'/></a>", "<a><b xmlns='u'/></a>", "<a xmlns:p='u'><p:b/></a>", "<a xmlns:p='v' xmlns:q='u'><q:b/></a>", "<a xmlns=''><b xmlns='u'/></a>"},
		{"<a xmlns='u'><b xmlns=''/></a>", "<p:a xmlns:p='u'><b/></p:a>", "<p:a xmlns:p='u'><b xmlns=''/></p:a>", "<p:a xmlns:p='u' xmlns=''><b></b></p:a>"},
		{"<a xmlns='u'><b xmlns='v'/><c/></a>", "<p:a xmlns:p='u' xmlns='v'><b/><p:c/></p:a>", "<a xmlns='u' xmlns:p='v'><p:b/><c/></a>", "<p:a xmlns:p='u'><p:b xmlns:p='v'/><p:c/></p:a>"},
		{"<a xml:b='1'/>", "<a xmlns:xml='" + xmls + "' xml:b='1'/>", "<a xmlns:p='u' xml:b='1'/>"},
	} {
		want, e := grove.Parse(same[0])
		if e != api.OK {
			t.Fatalf("%q: %d", same[0], e)
		}
		for _, s := range same {
			is(t, s, want)
		}
	}
	for _, s := range []string{"<a/>", "<a xmlns='v'/>", "<p:a xmlns:p='v' xmlns='u'/>", "<p:a xmlns:p='U'/>"} { // and unlike spaces have unlike trees
		if n, e := grove.Parse(s); same(n, el("u", "a", nil)) || n.Name != "a" || e != api.OK {
			t.Errorf("%q: %s, %d", s, shown(n), e)
		}
	}
}
