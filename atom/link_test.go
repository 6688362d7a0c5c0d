package atom_test

import (
	"testing"

	"broadsheet/api"
)

func TestLinks(t *testing.T) { // O2: href is there, and a reference; type is a media type, if it is there
	for _, rel := range []string{"", " rel='alternate'", " rel='self'", " rel=''", " rel='edit-media'"} {
		for _, s := range []string{"href='a'", "href='http://a/b?c#d'", "href='#'", "href='?'", "href='//'", "href='%41'", "href='é'", "o:href='' href='a'", "hreflang='' href='a' title='b' length='x'", "href='a' type='text/html'", "type=' Text/HTML ;A=\"b\"' href='a'", "href='a' type='multipart/mixed'", "href='a' type='message/x'", "href='a' o:type='x'"} {
			fits(t, "<link "+s+rel+"/>", "<link "+s+rel+">x<b/><!--c--></link>")
		}
		for _, s := range []string{"", "o:href='a'", "Href='a'", "src='a'", "hreflang='a'", "type='text/html'", "href=''", "href=' '", "href=' a'", "href='a '", "href='a&#10;'", "href='a b'", "href='%'", "href='%4'", "href=':'", "href='1:a'", "href='&lt;'", "href='a#b#c'", "o:href='a' href=''", "href='a' type=''", "href='a' type=' '", "href='a' type='x'", "href='a' type='text'", "href='a' type='html'", "href='a' type='xhtml'", "href='a' type='text/'", "href='a' type='/html'", "href='a' type='text/html;'", "href='a' type='*/html'", "href='a' type='a/b, c/d'", "href='' type='text/html'", "href='a' o:type='text/html' type='x'"} {
			refuses(t, "<link "+s+rel+"/>", "<link "+s+rel+">a</link>", "<link href='a' rel='b'/><link "+s+rel+"/>", "<link "+s+rel+"/><link href='a' rel='b'/>")
		}
	}
}

func TestLinksForAlternate(t *testing.T) { // O2: whether they say so or not; no two with one type and one hreflang
	two := func(a, b string) []string {
		return []string{"<link href='a' " + a + "/><link href='b' " + b + "/>", "<link " + b + " href='a'/>x<id>urn:x</id><link " + a + " href='a'/>", "<link href='a' rel='x'/><link href='a' " + a + "/><link href='a' rel='x'/><o:link/><link href='a' " + b + "/>"}
	}
	for _, l := range [][2]string{
		{"", ""}, {"", "rel='alternate'"}, {"rel='alternate'", "rel='alternate'"}, {"", "o:rel='self'"}, {"", "Rel='self' title='x'"}, {"", "o:type='a/b' o:hreflang='en'"},
		{"type='a/b'", "type='a/b'"}, {"type='a/b'", "type='A/B' rel='alternate'"}, {"type='a/b;c=D'", "type='a/b;c=d'"}, {"hreflang='en'", "hreflang='en'"}, {"hreflang='en'", "hreflang='EN'"}, {"hreflang=''", "hreflang=''"}, {"hreflang='en-GB'", "rel='alternate' hreflang='EN-gb'"}, {"hreflang='É'", "hreflang='É'"},
		{"type='a/b' hreflang='en'", "hreflang='eN' type='a/B'"}, {"type='a/b' hreflang=''", "hreflang='' type='a/b' rel='alternate'"},
	} {
		refuses(t, two(l[0], l[1])...)
	}
	for _, l := range [][2]string{
		{"", "rel='self'"}, {"rel='alternate'", "rel=''"}, {"", "rel=''"}, {"", "rel='Alternate'"}, {"", "rel='ALTERNATE'"}, {"", "rel=' alternate'"}, {"", "rel='alternate '"}, {"rel='x'", "rel='x'"}, {"rel=''", "rel=''"}, {"rel='edit'", "rel='edit' o:rel='alternate'"}, {"", "rel='alternates'"}, {"", "rel='http://www.iana.org/assignments/relation/alternate'"},
		{"", "type='a/b'"}, {"", "hreflang=''"}, {"", "hreflang='en'"}, {"type='a/b'", "type='a/c'"}, {"type='a/b'", "type=' a/b'"}, {"type='a/b'", "type='a/b;c=d'"}, {"type='a/b;c=d'", "type='a/b; c=d'"}, {"type='a/b;c=d'", "type='a/b;c=\"d\"'"}, {"type='a/b'", "type='a/b' hreflang='en'"}, {"type='a/b'", "type='a/b' hreflang=''"}, {"type='a/b' hreflang='en'", "hreflang='en'"}, {"type='a/b' hreflang='en'", "hreflang='de' type='a/b'"}, {"type='a/b' hreflang='en'", "hreflang='en' type='a/c'"}, {"hreflang='en'", "hreflang='en '"}, {"hreflang='en'", "hreflang='en-GB'"}, {"hreflang='en'", ""}, {"hreflang=''", "hreflang='en'"},
		{"hreflang='É'", "hreflang='é'"}, {"hreflang='k'", "hreflang='&#x212A;'"}, {"hreflang='s'", "hreflang='&#x17F;'"}, {"hreflang='i'", "hreflang='&#x130;'"}, {"type='a/b' rel='x'", "type='a/b'"}, {"type='a/b' hreflang='en' rel='x'", "type='a/b' hreflang='en' rel='x'"},
	} {
		fits(t, two(l[0], l[1])...)
	}
	fits(t, "<link href='a'/><o:link href='a'/><x:link/><Link href='a'/><b><link href='a'/></b>")
	fits(t, "<link href='a'/><link href='a' type='a/b'/><link href='a' hreflang='en'/><link href='a' type='a/b' hreflang='en'/><link href='a' hreflang=''/><link href='a' type='a/b' hreflang=''/>")
	refuses(t, "<link href='a'/><link href='a' type='a/b'/><link href='a' hreflang='en'/><link href='a' type='a/b' hreflang='en'/><link href='a' type='A/B'/>")
}

func TestSmallLetters(t *testing.T) { // O2: letters A to Z count as small ones, no other ones do, nor do bytes that are no UTF-8
	rest := put(t, "")
	for a := range 256 {
		for b := range 256 {
			isLetter := a|32 >= 'a' && a|32 <= 'z'
			x, y := "x"+string([]byte{byte(a)})+"y", "X"+string([]byte{byte(b)})+"Y"
			n := with(rest, el("link", "", "href", "a", "hreflang", x), el("link", "", "href", "a", "hreflang", y))
			holdsAlone(t, n, a != b && !(isLetter && a^b == 32))
		}
	}
	for a := byte(33); a < 127; a++ { // of those of a type's bytes that there may be
		for b := byte(33); b < 127; b++ {
			agrees(t, with(rest, el("link", "", "href", "a", "type", "x/a"+string(rune(a))), el("link", "", "href", "a", "type", "X/A"+string(rune(b)))), false)
		}
	}
}

func TestEachTwoLinks(t *testing.T) { // O2: with all that they may have
	var l []api.Node
	for _, rel := range []string{"", "rel='alternate'", "rel='self'", "rel=''", "o:rel='self'"} {
		for _, kind := range []string{"", "type='a/b'", "type='A/b'", "type='a/c'", "o:type='a/c'", "type='x'"} {
			for _, language := range []string{"", "hreflang='en'", "hreflang='EN'", "hreflang=''", "o:hreflang='en'"} {
				l = append(l, kid(t, "<link href='a' "+rel+" "+kind+" "+language+"/>"))
			}
		}
	}
	rest, good, bad := put(t, ""), 0, 0
	for _, a := range l {
		for _, b := range l {
			if agrees(t, with(rest, a, b), true) {
				good++
			} else {
				bad++
			}
		}
	}
	if good < 5000 || bad < 5000 {
		t.Errorf("%d are entries, %d are none", good, bad)
	}
}

func TestManyLinks(t *testing.T) { // O2: it ends
	n := put(t, "")
	for i := range 100000 {
		n.Kids = append(n.Kids, el("link", "", "href", "a", "hreflang", numeral(i)))
	}
	for _, x := range []struct {
		more api.Node
		want bool
	}{{el("link", "", "href", "a"), true}, {el("link", "", "href", "a", "hreflang", "x", "type", "a/b"), true}, {el("link", "", "href", "a", "hreflang", numeral(0)), false}, {el("link", "", "href", "a", "hreflang", numeral(99999)), false}, {el("link", "", "href", "a", "hreflang", numeral(0), "rel", "x"), true}} {
		holdsAlone(t, with(n, x.more), x.want)
	}
}
