package atom_test

import (
	"strings"
	"testing"

	"broadsheet/api"
)

// bodies are what may stand between tags, and what may not.
type bodies struct{ good, bad []string }

// hold fails unless what stands between the tags of an element, with those attributes, may stand there, or may not.
func (l bodies) hold(t *testing.T, name, attrs string) {
	t.Helper()
	for _, s := range l.good {
		fits(t, "<"+name+attrs+">"+s+"</"+name+">")
	}
	for _, s := range l.bad {
		refuses(t, "<"+name+attrs+">"+s+"</"+name+">")
	}
}

func TestTextConstructs(t *testing.T) { // O2: without a type, of each one, and of those that are none
	plain := bodies{
		good: []string{"", "x", " ", "x&lt;b>y", "<!--c-->", "x<!--c-->y<?p q?>z", "<?p?>"},
		bad:  []string{"<b/>", "<o:b/>", "<x:div/>", "x<b/>", "<b/>x", "x<!--c--><b>y</b>z", "<name>A</name>"},
	}
	xhtml := bodies{
		good: []string{"<x:div/>", "<x:div>x<x:p>y</x:p></x:div>", "<x:div><div/><o:div/><x:div/></x:div>", " <x:div/>", "<x:div/>\n", "\t\r\n <x:div/> &#9;&#10;&#13;&#32;", "<!--c--><x:div/><?p q?>", " <!--c--> <x:div a='1'/> <?p?> "},
		bad:  []string{"", " ", "x", "<!--c-->", "<?p?>", "<div/>", "<o:div/>", "<x:p/>", "<x:Div/>", "<x:div/><x:div/>", "<x:div/> <x:div/>", "<x:div/><x:div/><x:div/>", "<x:div/><x:p/>", "<b/><x:div/>", "<x:div/><o:div/>", "<x:div/><div/>", "<x:p><x:div/></x:p>", "x<x:div/>", "<x:div/>x", " <x:div/> . ", "&#160;<x:div/>", "<x:div/>&#x2003;", "<x:div/><!--c-->x", "x<!--c--> <x:div/>"},
	}
	never := bodies{bad: []string{"", "x", "<x:div/>", "<b/>", " <x:div/> "}}
	for _, name := range []string{"title", "summary", "rights"} {
		for _, s := range []string{"", " type='text'", " type='html'", " o:type='xhtml'", " o:type='y' type='text'", " Type='xhtml' kind='y'"} {
			plain.hold(t, name, s)
		}
		for _, s := range []string{" type='xhtml'", " o:type='text' type='xhtml' a='1'"} {
			xhtml.hold(t, name, s)
		}
		for _, s := range []string{"", " ", "Text", "HTML", "XHTML", "xHtml", "text ", " html", "xhtml ", "tex", "texts", "html5", "text/plain", "text/html", "application/xhtml+xml", "image/png", "*/*", "y"} {
			never.hold(t, name, " type='"+s+"'")
		}
	}
	plain.hold(t, "content", "")
	plain.hold(t, "content", " type='text'")
	plain.hold(t, "content", " type='html'")
	xhtml.hold(t, "content", " type='xhtml'")
}

func TestTextsBesideADiv(t *testing.T) { // O2: nothing but space, byte by byte, in however many texts
	div := kid(t, "<x:div/>")
	for c := range 256 {
		s := string([]byte{byte(c)})
		isSpace := c == 9 || c == 10 || c == 13 || c == 32
		for _, l := range [][]api.Node{{text(s), div}, {div, text(s)}, {text(" "), text(s), div, text("\n")}, {text(" " + s + "\t"), comment("c"), div}, {div, text(s), text("")}, {text(""), text(""), div, text(s)}} {
			n := api.Node{Space: atoms, Name: "summary", Attrs: []api.Attr{{Name: "type", Value: "xhtml"}}, Kids: l}
			holds(t, with(put(t, ""), n), isSpace, isSpace)
			n.Name = "content"
			holds(t, with(put(t, ""), n), isSpace, isSpace)
		}
	}
}

// people are what persons have between their tags.
func people() bodies {
	return bodies{
		good: []string{
			"<name>A</name>", "<name> \n A B\t</name>", "<name>A<!--c-->B<?p?></name>", "<name a='1'>é</name>", "<name><![CDATA[<]]></name>",
			"<name>A</name><uri>a</uri>", "<name>A</name><uri> http://a/b?c#d\n</uri>", "<uri>#</uri><name>A</name>", "<name>A</name><uri>a<!--c-->b</uri>",
			"<name>A</name><email>a@b</email>", "<email>\t a@b \n</email><name>A</name>", "<name>A</name><email>a b@c d</email>", "<name>A</name><email>a<!--@-->@<?p @?>b</email>",
			"<email>a@b</email><uri>//</uri><name>A</name>", "x<name>A</name> <!--c--><?p q?>y<uri>a</uri>&amp;",
			"<name>A</name><o:name/><o:uri/><o:email/>", "<o:name>B</o:name><name>A</name><x:uri>%</x:uri><x:email>a</x:email>", "<o:uri><b/></o:uri><name>A</name><o:uri/>",
			"<name>A</name><other/><id>x</id><title type='y'/><Name/><names/><Uri/><mail/><author/>",
		},
		bad: []string{
			"", "A", " ", "<!--c-->", "<o:name>A</o:name>", "<x:name>A</x:name>", "<Name>A</Name>", "<title>A</title>", "<b><name>A</name></b>", "<uri>a</uri>", "<email>a@b</email>", "<uri>a</uri><email>a@b</email>",
			"<name/>", "<name></name>", "<name> \t\r\n&#13;</name>", "<name><!--A--></name>", "<name><?A A?></name>", "<name><b>A</b></name>", "<name>A<b/></name>", "<name>A<o:b/>B</name>",
			"<name>A</name><name>A</name>", "<name>A</name><name/>", "<name/><name>A</name>", "<name>A</name><uri>a</uri><name>B</name>", "<name>A</name><name>B</name><name>C</name>",
			"<name>A</name><uri/>", "<name>A</name><uri> </uri>", "<name>A</name><uri>a b</uri>", "<name>A</name><uri>%</uri>", "<uri>:</uri><name>A</name>", "<name>A</name><uri>&lt;</uri>", "<name>A</name><uri>a<b/></uri>", "<name>A</name><uri><b>a</b></uri>",
			"<name>A</name><uri>a</uri><uri>a</uri>", "<uri>a</uri><name>A</name><uri/>", "<name>A</name><uri>a</uri><uri>b</uri><uri>c</uri>",
			"<name>A</name><email/>", "<name>A</name><email> </email>", "<name>A</name><email>a</email>", "<name>A</name><email>@</email>", "<name>A</name><email> @b</email>", "<name>A</name><email>a@ </email>", "<email>a@b@c</email><name>A</name>", "<name>A</name><email>a@@b</email>",
			"<name>A</name><email>@a@b</email>", "<name>A</name><email>a@b@</email>", "<name>A</name><email>@@</email>", "<name>A</name><email>a@b<b/></email>", "<name>A</name><email>a<b>@</b>b</email>", "<name>A</name><email>a<!--@-->b</email>", "<name>A</name><email><b/></email>",
			"<name>A</name><email>a@b</email><email>a@b</email>", "<email/><name>A</name><email>a@b</email>", "<email>a@b</email><email>c@d</email><email>e@f</email><name>A</name>",
		},
	}
}

func TestPersons(t *testing.T) { // O2: with none, one and two of each kid, and with each as it may be and may not
	for _, name := range []string{"author", "contributor"} {
		people().hold(t, name, "")
		people().hold(t, name, " name='A' type='y'")
		for _, s := range people().bad { // another one beside it does not help
			one, good := "<"+name+">"+s+"</"+name+">", "<"+name+"><name>A</name></"+name+">"
			refuses(t, one+good, good+one, good+one+good)
		}
	}
	for _, s := range people().good {
		for _, x := range people().good[:4] {
			fits(t, "<author>"+s+"</author><author>"+x+"</author><contributor>"+s+"</contributor><contributor>"+x+"</contributor>")
		}
	}
}

func TestEMail(t *testing.T) { // O2: just one @, neither first nor last, of few bytes and of each one
	check := func(s string) {
		t.Helper()
		n := el("author", "")
		n = with(n, el("name", "A"), el("email", s))
		is := emailForm.MatchString(spaceAbout.ReplaceAllString(s, ""))
		holds(t, with(entry(kids(t, base+idAndUpdated)...), n), is, is)
	}
	texts("", []string{"@", "a", " ", "\n", "é", "."}, 5, check)
	for c := range 256 {
		x := string([]byte{byte(c)})
		for _, s := range []string{x, x + "@", "@" + x, "a@" + x, x + "@b", "a" + x + "b", "a@b" + x, x + "a@b", "a" + x + "@b", x + "@" + x} {
			check(s)
		}
	}
}

// about are texts that are space, and texts that are something else.
func about() bodies {
	return bodies{
		good: []string{"", " ", "\t", "\n", "\r", " \t\r\n", "\r\n\r\n  "},
		bad:  []string{"\x00", "\x01", "\v", "\f", "\x1f", "\x7f", "\u0085", "\u00A0", "\u2003", "\u2028", "\u3000", "\uFEFF", "\xA0", "\x85", "\xff", "\uFFFD", "<", "\""},
	}
}

func TestTextsInParts(t *testing.T) { // O2: of an element's text all parts count, but for space about it
	for name, s := range map[string]string{"id": "urn:a", "updated": "2005-07-31T12:29:29.5+01:00", "published": "2005-07-31T12:29:29Z"} {
		rest := kidsBut(put(t, ""), name)
		ask := func(is bool, l ...api.Node) {
			t.Helper()
			n := with(rest, api.Node{Space: atoms, Name: name, Kids: l})
			holds(t, n, is, is)
		}
		for _, ahead := range about().good {
			for _, behind := range about().good {
				ask(true, text(ahead+s+behind))
				ask(true, text(ahead), comment("c"), text(s), instr("p", "q"), text(behind))
			}
		}
		for _, x := range about().bad {
			ask(false, text(x+s))
			ask(false, text(" "+x+" "+s))
			ask(false, text(x), text(s))
			mayEndSo := name == "id" && isReference(s+x)
			ask(mayEndSo, text(s+x))
			ask(mayEndSo, text(s), text(x+"\n"))
			ask(false, text(s+" "), text(x))
		}
		head, tail := s[:3], s[3:]
		ask(true, text(head), text(tail))
		ask(true, text(""), text(head), comment("c"), text(tail+" "))
		ask(false, text(head+" "), text(tail))
		ask(false, text(s), text(" "), text(s))
		ask(false, text(s), el("b", ""))
		ask(false, el("b", s))
		ask(false, text(head), api.Node{Space: "u", Name: "b", Kids: []api.Node{text(tail)}})
		ask(false, comment(s))
		ask(false, instr("p", s))
		ask(false, text(""))
		ask(false, text(" "))
		ask(false)
	}
}

func TestEachByteOfAName(t *testing.T) { // O2: what is space is not told, all else is
	rest := put(t, "")
	for c := range 256 {
		s := string([]byte{byte(c)})
		isSpace := c == 9 || c == 10 || c == 13 || c == 32
		for _, name := range []api.Node{el("name", s), el("name", " \n"+s+"\t"), with(el("name", " "), text(s))} {
			holds(t, with(rest, with(el("contributor", ""), name)), !isSpace, !isSpace)
		}
	}
}

// kidsBut is a node without the kids of that name.
func kidsBut(n api.Node, name string) api.Node {
	var l []api.Node
	for _, kid := range n.Kids {
		if kid.Name != name {
			l = append(l, kid)
		}
	}
	n.Kids = l
	return n
}

func TestPointsOfTime(t *testing.T) { // O2
	for _, name := range []string{"updated", "published"} {
		bodies{
			good: []string{"2005-07-31T12:29:29Z", " 2005-07-31T12:29:29Z\n", "0000-01-01T00:00:00+23:59", "9999-12-31T23:59:59.999999999999-00:00", "2004-02-29T00:00:00.0Z", "2005<!--c-->-07-31T<?p?>12:29:29Z"},
			bad:  []string{"", " ", "x", "2005-07-31", "2005-07-31T12:29:29", "2005-02-29T00:00:00Z", "2005-07-31t12:29:29z", "2005-07-31 12:29:29Z", "2005-07-31T24:00:00Z", "2005-07-31T12:29:29.Z", "2005-07-31T12:29:29ZZ", "-2005-07-31T12:29:29Z", "2005-07-31T12:29:29Z 2005-07-31T12:29:29Z", "<b>2005-07-31T12:29:29Z</b>", "2005-07-31T12:29:29Z<b/>", "<o:b/>2005-07-31T12:29:29Z", "<!--2005-07-31T12:29:29Z-->", "1122812969"},
		}.hold(t, name, "")
	}
}

func TestIDs(t *testing.T) { // O2: whole references alone
	l := bodies{
		good: []string{"urn:a", " urn:a\n", "a:", "http://a/b?c#d", "tag:a@b,2005:c", "URN:A", "urn:é", "a+b.c-1:x", "urn:<!--c-->a", "urn:a<?p?>", "urn:%41"},
		bad:  []string{"", " ", "a", "a/b", "/a:b", "//a", "?a:b", "#", "#a:b", ":", ":a", "1a:b", "urn:a b", "urn:%", "urn:&lt;", "urn:a|b", "é:a", "<b>urn:a</b>", "urn:a<b/>", "urn:<b/>a", "<o:b/>urn:a", "<!--urn:a-->", "<?urn urn:a?>", "./a:b"},
	}
	l.hold(t, "id", "")
	l.hold(t, "id", " type='xhtml' href='urn:a' term='urn:a'")
}

func TestCategories(t *testing.T) { // O2: the attribute term is there
	fits(t, "<category term=''/>", "<category term='a'/>", "<category label='b' term=' &lt;' scheme='%'/>", "<category term='a'>x<b/><!--c--></category>", "<category o:term='b' term='a'/>", "<category term='a'/><category term='a'/><category term='b'/>")
	refuses(t, "<category/>", "<category label='a'/>", "<category o:term='a'/>", "<category Term='a'/>", "<category terms='a'/>", "<category>a</category>", "<category><term>a</term></category>", "<category term='a'/><category/>", "<category/><category term='a'/>", "<category xml:term='a'/>")
	fits(t, "<o:category/>", "<x:category/><category term='a'/>", "<Category/>", "<categories/>")
}

// texts calls f with every text of up to n of the pieces, one behind the other, behind head.
func texts(head string, pieces []string, n int, f func(string)) {
	f(head)
	if n == 0 {
		return
	}
	for _, x := range pieces {
		texts(head+x, pieces, n-1, f)
	}
}

func TestLongTexts(t *testing.T) { // O2: no length is too great
	x := strings.Repeat("x", 100000)
	n := put(t, "")
	for _, kid := range []api.Node{el("rights", x), el("summary", x+x, "type", "html"), with(el("contributor", x), el("name", x), el("email", x+"@"+x), el("uri", x)), el("link", x, "href", x, "rel", x), el("content", x, "type", "a/"+x), el("category", "", "term", x), el(x, x)} {
		n = with(n, kid)
		holds(t, n, true, true)
	}
	holds(t, with(n, with(el("contributor", ""), el("name", "A"), el("email", x+"@"+x+"@"))), false, false)
}
