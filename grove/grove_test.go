package grove_test

import (
	"slices"
	"strconv"
	"strings"
	"testing"

	"broadsheet/api"
	"broadsheet/grove"
)

// trees are documents' elements, with no declaration, and nothing about them, and what they are.
func trees() map[string]api.Node {
	return map[string]api.Node{
		"<a/>":                           el("", "a", nil),
		"<a />":                          el("", "a", nil),
		"<a></a>":                        el("", "a", nil),
		"<a\n></a\t>":                    el("", "a", nil),
		"<é-1.😀/>":                       el("", "é-1.😀", nil),
		"<xml/>":                         el("", "xml", nil),
		"<xmlns/>":                       el("", "xmlns", nil),
		"<a b='1'/>":                     el("", "a", attrs("", "b", "1")),
		"<a b=''></a>":                   el("", "a", attrs("", "b", "")),
		"<a c='1' b='2' a=\"3\"/>":       el("", "a", attrs("", "c", "1", "", "b", "2", "", "a", "3")), // in order
		"<a b='&lt;&#x41;\n\"'/>":        el("", "a", attrs("", "b", "<A \"")),
		"<a b='1' B='1' é='1'/>":         el("", "a", attrs("", "b", "1", "", "B", "1", "", "é", "1")),
		"<a xml='1' xmlnsa='2'/>":        el("", "a", attrs("", "xml", "1", "", "xmlnsa", "2")),
		"<a xml:lang='en'/>":             el("", "a", attrs(xmls, "lang", "en")),
		"<xml:a xml:a='1' a='2'/>":       el(xmls, "a", attrs(xmls, "a", "1", "", "a", "2")),
		"<a xml:xml='1' xml:xmlns='2'/>": el("", "a", attrs(xmls, "xml", "1", xmls, "xmlns", "2")),

		"<a>x</a>":                el("", "a", nil, text("x")),
		"<a> </a>":                el("", "a", nil, text(" ")), // inside it stays
		"<a>\r\n\t</a>":           el("", "a", nil, text("\n\t")),
		"<a>é😀\u00A0</a>":         el("", "a", nil, text("é😀\u00A0")),
		"<a><!----></a>":          el("", "a", nil, comment("")),
		"<a><!-- <b> --></a>":     el("", "a", nil, comment(" <b> ")),
		"<a><?p?></a>":            el("", "a", nil, instr("p", "")),
		"<a><?p  <b> ?></a>":      el("", "a", nil, instr("p", "<b> ")),
		"<a><?é q?></a>":          el("", "a", nil, instr("é", "q")),
		"<a><?xmlns q?></a>":      el("", "a", nil, instr("xmlns", "q")),
		"<a><?p q?><?p q?></a>":   el("", "a", nil, instr("p", "q"), instr("p", "q")),
		"<a><!--x--><!--x--></a>": el("", "a", nil, comment("x"), comment("x")),

		"<a><b/></a>":                 el("", "a", nil, el("", "b", nil)),
		"<a><b></b></a>":              el("", "a", nil, el("", "b", nil)),
		"<a><a><a/></a></a>":          el("", "a", nil, el("", "a", nil, el("", "a", nil))),
		"<a><b/><c/><b/></a>":         el("", "a", nil, el("", "b", nil), el("", "c", nil), el("", "b", nil)),
		"<a><b><c/></b><d/></a>":      el("", "a", nil, el("", "b", nil, el("", "c", nil)), el("", "d", nil)),
		"<a><b/><c><d/></c></a>":      el("", "a", nil, el("", "b", nil), el("", "c", nil, el("", "d", nil))),
		"<a b='1'><c d='2'/></a>":     el("", "a", attrs("", "b", "1"), el("", "c", attrs("", "d", "2"))),
		"<a b='1'><a b='2'/></a>":     el("", "a", attrs("", "b", "1"), el("", "a", attrs("", "b", "2"))),
		"<a>x<b>y</b>z</a>":           el("", "a", nil, text("x"), el("", "b", nil, text("y")), text("z")),
		"<a>x<b/>x</a>":               el("", "a", nil, text("x"), el("", "b", nil), text("x")),
		"<a>x<!--y-->z</a>":           el("", "a", nil, text("x"), comment("y"), text("z")),
		"<a>x<!---->z</a>":            el("", "a", nil, text("x"), comment(""), text("z")),
		"<a>x<?y?>z</a>":              el("", "a", nil, text("x"), instr("y", ""), text("z")),
		"<a> <b> </b> </a>":           el("", "a", nil, text(" "), el("", "b", nil, text(" ")), text(" ")),
		"<a><b>x</b><b>y</b></a>":     el("", "a", nil, el("", "b", nil, text("x")), el("", "b", nil, text("y"))),
		"<a><!--b--><?c d?>e<f/></a>": el("", "a", nil, comment("b"), instr("c", "d"), text("e"), el("", "f", nil)),

		"<a xmlns='u' b='1'>x<!--c--></a>": el("u", "a", attrs("", "b", "1"), text("x"), comment("c")),
	}
}

func TestParse(t *testing.T) { // I1
	for s, want := range trees() {
		is(t, s, want)
		is(t, "<?xml version='1.0'?>"+s, want)
		is(t, "<?xml version=\"1.1\" encoding='utf-8' standalone='no' ?>\n"+s+"\n", want)
	}
}

// joined are what stands in an element, and the texts and other nodes that it makes.
func joined() map[string][]api.Node {
	x, xy, xyz := text("x"), text("xy"), text("xyz")
	return map[string][]api.Node{
		"":                            nil,
		"<![CDATA[]]>":                nil,
		"<![CDATA[]]><![CDATA[]]>":    nil,
		"x":                           {x},
		"&#120;":                      {x},
		"<![CDATA[x]]>":               {x},
		"x<![CDATA[]]>":               {x},
		"<![CDATA[]]>x":               {x},
		"<![CDATA[]]>x<![CDATA[]]>":   {x},
		"<![CDATA[x]]><![CDATA[]]>":   {x},
		"<![CDATA[]]><![CDATA[x]]>":   {x},
		"x<![CDATA[y]]>":              {xy},
		"<![CDATA[x]]>y":              {xy},
		"x<![CDATA[]]>y":              {xy},
		"x<![CDATA[]]><![CDATA[]]>y":  {xy},
		"<![CDATA[x]]><![CDATA[y]]>":  {xy},
		"x&#121;":                     {xy},
		"&#120;<![CDATA[y]]>":         {xy},
		"x<![CDATA[y]]>z":             {xyz},
		"<![CDATA[x]]>y<![CDATA[z]]>": {xyz},
		"<![CDATA[x]]><![CDATA[y]]><![CDATA[z]]>": {xyz},
		"x&lt;<![CDATA[y]]>z":                     {text("x<yz")},
		"&lt;<![CDATA[&lt;]]>&amp;lt;":            {text("<&lt;&lt;")},
		"<![CDATA[<a>]]>&#32;<![CDATA[ ]]>":       {text("<a>  ")},
		" <![CDATA[ ]]>\n":                        {text("  \n")},
		"]]<![CDATA[]]>&gt;":                      {text("]]>")},
		"]<![CDATA[]]]>&gt;":                      {text("]]>")},
		"\r<![CDATA[\n]]>&#13;":                   {text("\n\n\r")},
		"é<![CDATA[😀]]>":                          {text("é😀")},
		"x<!---->y":                               {x, comment(""), text("y")},
		"x<![CDATA[]]><!--c--><![CDATA[]]>y":      {x, comment("c"), text("y")},
		"<![CDATA[]]><!--c--><![CDATA[]]>":        {comment("c")},
		"<![CDATA[]]><?p?><![CDATA[]]>":           {instr("p", "")},
		"<![CDATA[]]><b/><![CDATA[]]>":            {el("", "b", nil)},
		"x<![CDATA[y]]><?p?>x<![CDATA[y]]>":       {xy, instr("p", ""), xy},
		"x<b>x</b>x":                              {x, el("", "b", nil, x), x},
		"x<b/><![CDATA[]]><b/>x":                  {x, el("", "b", nil), el("", "b", nil), x},
		"<b>x</b><![CDATA[y]]>":                   {el("", "b", nil, x), text("y")},
		"x<b><![CDATA[]]></b>":                    {x, el("", "b", nil)},
		"<!--c-->x":                               {comment("c"), x}, // what is no text is not gone on with
		"<!--c--><![CDATA[x]]>":                   {comment("c"), x},
		"<?p q?>x":                                {instr("p", "q"), x},
	}
}

func TestCharactersSideBySide(t *testing.T) { // I1
	for s, want := range joined() {
		is(t, "<a>"+s+"</a>", el("", "a", nil, want...))
		is(t, "<a b='1'><c>"+s+"</c></a>", el("", "a", attrs("", "b", "1"), el("", "c", nil, want...)))
		is(t, "<a><b/>"+s+"<b/></a>", el("", "a", nil, slices.Concat([]api.Node{el("", "b", nil)}, want, []api.Node{el("", "b", nil)})...))
	}
}

// outside are characters that may not stand outside the element.
func outside() []string {
	return []string{"x", " x", "x ", "\nx\n", "0", ".", ";", "'", "=", "]", ">", "é", "😀", "\uFFFD", "\uFEFF", "\u00A0", "\u0085", "\u2028", "\u3000", "\u200B", "\x7f",
		"&#32;", "&#9;", "&#10;", "&#13;", "&#x20;", " &#32;", "&#32; ", "\n&#10;\n", "&lt;", "x&amp;", "&#120;", // space by a reference is Alone
		"<![CDATA[]]>", "<![CDATA[ ]]>", "<![CDATA[\n]]>", "<![CDATA[x]]>", " <![CDATA[]]>", "<![CDATA[]]> ", "<![CDATA[]]><![CDATA[]]>"}
}

func TestCharactersOutside(t *testing.T) { // I1
	for _, s := range outside() {
		for _, x := range []string{"_", "_<a/>", "<a/>_", "<a></a>_", "_<a></a>", " _<a/>", "<a/> _", "<!--c-->_<a/>", "_<!--c--><a/>", "<a/><?p?>_", "<a/>_<?p?>", "<?xml version='1.0'?>_<a/>", "<a>x</a>_", "<a><b/></a>_", "_<a>x</a>"} {
			refuses(t, strings.ReplaceAll(x, "_", s), api.ErrNest)
		}
		if n, e := grove.Parse("<a>" + s + "</a>"); n.Name != "a" || e != api.OK { // inside all of them may
			t.Errorf("%q inside: %s, %d", s, shown(n), e)
		}
	}
	for _, s := range []string{"", " ", "\t", "\n", "\r", "\r\n", " \t\r\n ", strings.Repeat(" ", 1000)} {
		is(t, s+"<a/>", el("", "a", nil))
		is(t, "<a/>"+s, el("", "a", nil))
		is(t, s+"<a></a>"+s, el("", "a", nil))
		is(t, s+"<!--c-->"+s+"<a>"+s+"x</a>"+s+"<?p?>"+s, el("", "a", nil, text(strings.NewReplacer("\r\n", "\n", "\r", "\n").Replace(s)+"x")))
		refuses(t, s, api.ErrNest)
	}
}

func TestEndTags(t *testing.T) { // I1: that end nothing, or have another name
	for _, s := range []string{
		"</a>", " </a>", "<!--c--></a>", "</a><a/>", "</a><a></a>", "<a/></a>", "<a/> </a>", "<a></a></a>", "<a><b/></a></a>", "<a><b></b></b></a>", "<a><b/></b></a>", "<a/></b>",
		"</p:a>", "</a:b:c>", "</xmlns:a>", // none of these names is asked for its space
		"<a></b>", "<a></A>", "<a></aa>", "<aa></a>", "<a></a-></a>", "<a></é>", "<é></e>", "<a></p:a>", "<a></:a>", "<a></a:>", "<a></xml:a>", "<xml:a></a>",
		"<a><b></a></b>", "<a><b></a>", "<a><b></b></b>", "<a><b><c></b></c></a>", "<a><b><c></c></a></b>", "<a><b></c></b></a>", "<a><a></a></b>", "<b><a></b></a>",
		"<p:a xmlns:p='u' xmlns:q='u'></q:a>", "<p:a xmlns:p='u' xmlns='u'></a>", "<a xmlns='u' xmlns:p='u'></p:a>", // one space, but another name
		"<p:a xmlns:p='u'></p:b>", "<p:a xmlns:p='u'></a>", "<p:a xmlns:p='u'><p:b></p:a></p:b>",
	} {
		refuses(t, s, api.ErrNest)
		refuses(t, s+"</a>", api.ErrNest)
	}
	is(t, "<p:a xmlns:p='u' xmlns:q='u'></p:a>", el("u", "a", nil))
	is(t, "<p:a xmlns:p='u'><p:a xmlns:p='v'></p:a></p:a>", el("u", "a", nil, el("v", "a", nil)))
	is(t, "<xml:a></xml:a>", el(xmls, "a", nil))
}

func TestStartTagsBehindTheElement(t *testing.T) { // I1
	for _, x := range []string{"<a/>", "<a></a>", "<a>x</a>", "<a><b/></a>"} {
		for _, s := range []string{"<b/>", "<a/>", "<b></b>", "<b>", "<b/><c/>", " <b/>", "<!--c--><b/>", "<?p?>\n<b/>", "<p:b/>", "<xmlns:b/>", "<b:c:d/>", "<b p:c=''/>", "<b xmlns:p=''/>", "<b xmlns:p='u' xmlns:q='u' p:a='' q:a=''/>", "<b" + listed(50, "b", "") + "/>", "<b" + listed(51, "b", "") + "/>"} {
			refuses(t, x+s, api.ErrNest)
		}
	}
}

func TestTheEnd(t *testing.T) { // I1: with an element open, or without any
	for _, s := range []string{"", " ", "\n", "<!--c-->", "<?p?>", "<?xml version='1.0'?>", "<?xml version='1.0'?>\n<!--<a/>--><?a <a/>?> ",
		"<a>", "<a> ", "<a>x", "<a><!--c-->", "<a><b>", "<a><b></b>", "<a><b/>", "<a><a></a>", "<a><b><c></c></b>", "<a b='1'>", "<p:a xmlns:p='u'>", "<a>&lt;/a>", "<a><![CDATA[</a>]]>", "<a><!--</a>-->", "<a><?b </a>?>"} {
		refuses(t, s, api.ErrNest)
		refuses(t, s+"\n", api.ErrNest)
		refuses(t, s+"<!---->", api.ErrNest)
	}
}

func TestInstructions(t *testing.T) { // I1: names that are not plain, inside and outside
	for _, p := range []string{"p:q", ":", ":p", "p:", "p:q:r", "::", "xml:p", "xmlns:p", "p:xml", "é:é"} {
		for _, data := range []string{"", " q", " a:b"} {
			put := "<?" + p + data + "?>"
			for _, s := range []string{"_", "_<a/>", "<a/>_", "<a></a>_", "<a>_</a>", "<a>x_</a>", "<a><b>_</b></a>", "<a><b/>_</a>", "<?xml version='1.0'?>_<a/>", "<!--c-->_<a/>", "<p:a xmlns:p='u'>_</p:a>", "<a>_", "_</a>", "_x", "_<a>", "<?p?>_<a/>"} {
				refuses(t, strings.ReplaceAll(s, "_", put), api.ErrPrefix)
			}
		}
	}
	for _, p := range []string{"p", "_", "é", "xmlns", "xml-p", "XMLs", "p.1-\u00B7", "😀"} {
		for _, s := range []string{"_<a/>", "<a/>_", "_<a/>_", "<?xml version='1.0'?>_<a/>"} {
			is(t, strings.ReplaceAll(s, "_", "<?"+p+" a:b?>"), el("", "a", nil))
		}
		is(t, "<a><?"+p+" a:b?></a>", el("", "a", nil, instr(p, "a:b")))
	}
}

// deep is n elements in one another, with those kids in the innermost one.
func deep(n int, kids ...api.Node) api.Node {
	one := el("", "a", nil, kids...)
	for range n - 1 {
		one = el("", "a", nil, one)
	}
	return one
}

func TestDepth(t *testing.T) { // I1: 30 elements in one another, and 31
	for n := 1; n <= 30; n++ {
		is(t, nested(n, ""), deep(n))
		is(t, nested(n, "x"), deep(n, text("x")))
	}
	b := el("", "b", nil)
	is(t, nested(29, "<b/>"), deep(29, b))
	is(t, nested(29, "<b></b>"), deep(29, b))
	is(t, nested(29, strings.Repeat("<b/>", 100)), deep(29, slices.Repeat([]api.Node{b}, 100)...)) // beside one another, as many as come
	is(t, nested(29, "<b/>x<b></b>"), deep(29, b, text("x"), b))
	is(t, nested(30, "x<!--c--><?p?><![CDATA[y]]>"), deep(30, text("x"), comment("c"), instr("p", ""), text("y")))
	is(t, "<a>"+nested(29, "")+nested(29, "")+nested(29, "")+"</a>", el("", "a", nil, deep(29), deep(29), deep(29)))
	for _, s := range []string{nested(31, ""), nested(32, ""), nested(1000, ""), nested(30, "<b/>"), nested(30, "x<b></b>"), nested(29, "<b/><a><c/></a>"), nested(29, "<b/><b/><b><c></c></b>"),
		"<a>" + nested(29, "") + nested(30, "") + "</a>", "<a><b/>" + nested(30, "") + "</a>", strings.Repeat("<a>", 31), strings.Repeat("<a>", 30) + "<b/>", strings.Repeat("<a>", 30) + "<b>x</c>"} {
		refuses(t, s, api.ErrLong)
	}
	refuses(t, strings.Repeat("<a>", 30), api.ErrNest)
	refuses(t, strings.Repeat("<a>", 29)+"<b/>", api.ErrNest)
	refuses(t, strings.Repeat("<a>", 30)+"</b><b/>", api.ErrNest)
}

func TestAttributes(t *testing.T) { // I1: 50 attributes, and 51, those that declare among them
	var want []api.Attr
	for i := range 50 {
		want = append(want, api.Attr{Name: "b" + strconv.Itoa(i), Value: "v"})
	}
	for n := range 51 {
		is(t, "<a"+listed(n, "b", "v")+"/>", el("", "a", want[:n]))
		is(t, "<c><a"+listed(n, "b", "v")+"></a></c>", el("", "c", nil, el("", "a", want[:n])))
		is(t, "<a"+listed(n, "b", "v")+listed(50-n, "xmlns:p", "u")+"/>", el("", "a", want[:n]))
		refuses(t, "<a"+listed(n, "b", "v")+listed(51-n, "xmlns:p", "u")+"/>", api.ErrLong)
		refuses(t, "<c><a"+listed(51-n, "xmlns:p", "u")+listed(n, "b", "v")+"></a></c>", api.ErrLong)
	}
	is(t, "<a xmlns='u'"+listed(49, "b", "v")+"/>", el("u", "a", want[:49]))
	is(t, "<a"+listed(50, "b", "v")+"><a"+listed(50, "b", "v")+"/><a"+listed(50, "b", "v")+"/></a>", el("", "a", want, el("", "a", want), el("", "a", want))) // each its own
	for _, s := range []string{listed(51, "b", ""), listed(52, "b", ""), listed(1000, "b", ""), listed(51, "xmlns:p", "u"), " xmlns='u'" + listed(50, "b", ""), listed(50, "b", "") + " xmlns='u'", listed(50, "b", "") + " xml:lang=''"} {
		for _, x := range []string{"<a_/>", "<a_></a>", "<a_>", "<a><b_/></a>", "<a><b/><b_></b></a>", "<a_><b_/></a>"} {
			refuses(t, strings.ReplaceAll(x, "_", s), api.ErrLong)
		}
	}
	is(t, nested(29, "<b"+listed(50, "b", "v")+"/>"), deep(29, el("", "b", want)))
	refuses(t, nested(29, "<b"+listed(51, "b", "v")+"/>"), api.ErrLong)
	refuses(t, nested(30, "<b"+listed(51, "b", "v")+"/>"), api.ErrLong)
}
