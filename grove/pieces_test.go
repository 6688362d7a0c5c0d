package grove_test

import (
	"slices"
	"strings"
	"testing"

	"broadsheet/api"
	"broadsheet/grove"
)

// A set is pieces of documents, good and bad ones, with what stands about them, and how many stand in one document.
type set struct {
	ahead, behind string
	pieces        []string
	n             int
}

func sets() []set {
	return []set{
		{"", "", []string{"<a>", "</a>", "<b>", "</b>", "<c/>", "x", "\n", "&#32;", "<![CDATA[]]>", "<!--c-->", "<?p q?>", "<?p:q?>"}, 5},
		{"<a>", "</a>", []string{"<a>", "</a>", "<b d='1'>", "</b>", "<c/>", "x", " ", "&lt;", "<![CDATA[]]>", "<![CDATA[y]]>", "<!---->", "<?p?>"}, 5},
		{"", "", []string{"<a>", "</a>", "<p:a>", "</p:a>", "<p:a xmlns:p='u'>", "<p:a xmlns:p='v'>", "<a xmlns='u'>", "<a xmlns=''>", "<q:a/>", "<a xmlns:q='w' q:b='' p:b=''/>"}, 5},
		{"<a xmlns='u' xmlns:p='v'>", "</a>", []string{"<b>", "</b>", "<p:b>", "</p:b>", "<b xmlns='v'>", "<b xmlns=''>", "<p:b xmlns:p='u'>", "<b xmlns:q='v' q:c='1'>", "<b q:c='1' p:c='2'/>", "<q:b/>", "<b xmlns:q='u' p:c='1' c='2' q:c='3'/>"}, 4},
		{"<a xmlns='u' xmlns:p='v'><p:b xmlns:q='u'>", "</p:b></a>", []string{"<b>", "</b>", "<p:b xmlns='v'/>", "</p:b>", "<q:b p:c='1' q:c='2'/>", "<q:b xmlns:q='v' p:c='1' q:c='2'/>", "<b xmlns:r='w'>", "<r:b/>", "x", "<a/>", "</a>"}, 5},
		{"<a", "/>", []string{" xmlns='u'", " xmlns:p='u'", " xmlns:q='u'", " xmlns:p='v'", " b='1'", " p:b='2'", " q:b='3'", " xml:b='4'", " c='5'", " xmlns:q=''", " b:c:d='6'", " r:b='7'"}, 4},
		{"<p:a", "><p:b q:c='1' p:c='2'/></p:a>", []string{" xmlns='u'", " xmlns:p='u'", " xmlns:q='u'", " xmlns:q='v'", " p:b='1'", " q:b='2'", " xmlns:xml='u'", " xmlns:xmlns='u'", " xmlns:r='w'", " r:b='3'", " p:c='4'"}, 4},
		{strings.Repeat("<a>", 28), strings.Repeat("</a>", 28), []string{"<a>", "</a>", "<b/>", "<p:b/>", "<b xmlns:p='u'>", "</b>", "x", "<?p:q?>", "<b" + listed(51, "c", "") + "/>", "<b" + listed(50, "c", "") + "/>"}, 4},
		{"<?xml version='1.0'?>", "", []string{" ", "\r\n", "<a>", "</a>", "<a/>", "<p:a/>", "<!--c-->", "<?p?>", "<?p:q?>", "<![CDATA[ ]]>", "x", "&#10;"}, 4},
		{"<a>", "</a>", []string{"x", "&#120;", "&x;", "]]>", "<![CDATA[", "]]>", "<!--", "-->", "<b>", "</b>", "<", ">"}, 5},
	}
}

func TestPieces(t *testing.T) { // I1: what is put together of them, against the chapter's words
	for _, x := range sets() {
		texts(x.pieces, x.n, func(s string) {
			agrees(t, x.ahead+s+x.behind)
		})
	}
}

func TestEachByte(t *testing.T) { // I1: at each place
	for c := range 256 {
		for _, s := range []string{"_", "_<a/>", "<a/>_", "<_a/>", "<a_/>", "<a>_</a>", "<a></a_>", "<a></_a>", "<_></_>", "<_:a xmlns:_='u'/>", "<p_:a xmlns:p='u'></p_:a>", "<a _='1' _b='2'/>", "<a p_b='1' xmlns:p='u'/>", "<a xmlns_p='u'/>", "<a xmlns='_'/>", "<a xmlns:p='_'/>", "<a b='_'/>", "<?_?><a/>", "<?p_q?><a/>", "<a><?_?></a>", "<a><?p_q?></a>", "<a><?p _?></a>", "<a><!--_--></a>", "<!--_--><a/>", "<a><![CDATA[_]]></a>", "<a/><![CDATA[_]]>", "<a/>_<b/>", "<a>_<b/>_</a>"} {
			agrees(t, strings.ReplaceAll(s, "_", string([]byte{byte(c)})))
			agrees(t, strings.ReplaceAll(s, "_", string(rune(c))))
		}
		agrees(t, "<a/>&#"+string(rune('0'+c%10))+string(rune('0'+c/10%10))+";")
	}
	for c := rune(0); c < 0x110000; c += 1 + c>>8 { // space is four bytes, no other code points
		agrees(t, string(c)+"<a/>")
		agrees(t, "<a/>"+string(c))
		agrees(t, "<"+string(c)+"/>")
	}
}

func TestAsOthersRead(t *testing.T) { // I1: what is a tree is the one that Go's own library reads
	many := 0
	for _, x := range sets() {
		texts(x.pieces, 4, func(s string) {
			s = x.ahead + s + x.behind
			n, e := grove.Parse(s)
			if e != api.OK {
				return
			}
			many++
			if m, err := read(s); !same(n, m) || err != nil {
				t.Fatalf("Parse %.500q: %s, but read as %s, %v", s, shown(n), shown(m), err)
			}
		})
	}
	if many < 10000 {
		t.Errorf("no more than %d documents were trees", many)
	}
}

// spoil writes into all lists of a tree: behind their lengths and, if inside, within them, too.
func spoil(n *api.Node, inside bool) {
	for i := range n.Kids {
		spoil(&n.Kids[i], inside)
	}
	a, k := n.Attrs, n.Kids
	if !inside {
		a, k = a[len(a):], k[len(k):]
	}
	for i := range a[:cap(a)] {
		a[:cap(a)][i] = api.Attr{Space: "-", Name: "-", Value: "-"}
	}
	for i := range k[:cap(k)] {
		k[:cap(k)][i] = text("-")
	}
}

func TestListsOfTheirOwn(t *testing.T) { // I1: no two lists of an answer, and no two answers, share anything
	s := "<a xmlns:p='u' b='1' c='2' p:b='3'>x<b d='1' e='2' f='3'><c/><c/>y<c g='1'/></b>z<b d='1'/><b/><!--c--><b><c><d/><d/><d h='1' i='2'/></c><c/><c/></b></a>"
	want, e := parse(s)
	if e != api.OK {
		t.Fatal(e)
	}
	n, _ := grove.Parse(s)
	m, _ := grove.Parse(s)
	spoil(&n, false)
	if !same(n, want) {
		t.Errorf("what stands behind a list is in another one: %s", shown(n))
	}
	spoil(&n, true)
	if !same(m, want) {
		t.Errorf("two answers share a list: %s", shown(m))
	}
	is(t, s, want)
	texts([]string{"<b c='1' d='2'>", "</b>", "<e/>", "x", "<!---->", "<f g='1'/>"}, 5, func(s string) {
		n, e := grove.Parse("<a>" + s + "</a>")
		if e != api.OK {
			return
		}
		want, _ := parse("<a>" + s + "</a>")
		if spoil(&n, false); !same(n, want) {
			t.Fatalf("%q: what stands behind a list is in another one: %s", s, shown(n))
		}
	})
}

func TestOnceMore(t *testing.T) { // R4: what is answered hangs on nothing but the text
	var l []string
	for s := range trees() {
		l = append(l, s)
	}
	slices.Sort(l)
	for _, s := range l {
		want, _ := grove.Parse(s)
		for x := range faults() {
			grove.Parse("<a>" + x)
			grove.Parse(s + x)
		}
		is(t, s, want)
	}
}
