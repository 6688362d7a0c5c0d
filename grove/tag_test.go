package grove_test

import (
	"slices"
	"strings"
	"testing"

	"broadsheet/api"
)

func TestOrderAtAStartTag(t *testing.T) { // I1: of the things that are wrong at one tag the first one is told
	const two = " xmlns:t1='u' xmlns:t2='u'"
	for _, tag := range []string{"<c", "<q:c"} { // q is not bound
		for _, attr := range []string{"", " q:d=''", two + " t1:d='' t2:d=''", two + " t1:d='' t2:d='' q:d=''", " q:d=''" + two + " t1:d='' t2:d=''", two + " t1:d='' q:d='' t2:d=''"} {
			for _, declared := range []string{"", " xmlns:q=''", " xmlns:xmlns='u'", " d:e:f=''", " xmlns:xml='u'", " xmlns='" + xmls + "'"} {
				want := api.OK
				switch {
				case tag == "<q:c" || declared != "":
					want = api.ErrPrefix // ahead of what is wrong with an attribute
				case strings.HasSuffix(attr, " t1:d='' t2:d=''") && strings.HasPrefix(attr, two), strings.HasSuffix(attr, " t2:d='' q:d=''"):
					want = api.ErrDouble // ahead of what is wrong with the attribute behind it
				case attr != "":
					want = api.ErrPrefix
				}
				atATag(t, tag, attr+declared, want)
				atATag(t, tag, declared+attr, want)
			}
		}
	}
}

// atATag fails unless a tag of those attributes has that error, and those that are told ahead of it, where they apply.
func atATag(t *testing.T, tag, l string, want api.Errno) {
	t.Helper()
	many := listed(51, "b", "")
	for _, end := range []string{"/>", ">", "></c>", "></q:c>", "><q:c></c>"} {
		if s := tag + l + end; want != api.OK {
			refuses(t, s, want)
			refuses(t, "<a>"+s+"</a>", want)
			refuses(t, nested(29, s), want)
		}
		for _, s := range []string{tag + many + l + end, tag + l + many + end} {
			refuses(t, s, api.ErrLong)
			refuses(t, "<a>"+s+"</a>", api.ErrLong)
			refuses(t, nested(30, s), api.ErrLong)
			refuses(t, "<a/>"+s, api.ErrNest)
		}
		refuses(t, nested(30, tag+l+end), api.ErrLong)
		refuses(t, "<a></a>"+tag+l+end, api.ErrNest)
	}
}

func TestDeclareAtATag(t *testing.T) { // I1: Declare's error
	for _, l := range []string{"xmlns:p=''", "xmlns:xml=''", "xmlns:xml='u'", "xmlns:xmlns='u'", "xmlns:xmlns='" + xmlnss + "'", "xmlns='" + xmls + "'", "xmlns='" + xmlnss + "'", "xmlns:p='" + xmls + "'", "xmlns:p='" + xmlnss + "'",
		"xmlns:='u'", "xmlns:1='u'", "xmlns:p:q='u'", ":b=''", "b:=''", ":=''", "b:c:d=''", "b:1=''"} {
		for _, s := range []string{"<a _/>", "<a _></a>", "<a b='' _ c=''/>", "<a><b _/></a>", "<a><b/>x<b _>", "<a xmlns:p='u'><p:b _/></a>"} {
			refuses(t, strings.ReplaceAll(s, "_", l), api.ErrPrefix)
		}
	}
	is(t, "<a xmlns:xml='"+xmls+"' xml:b=''/>", el("", "a", attrs(xmls, "b", "")))
	is(t, "<a xmlns=' u' xmlns:p='u&amp;\n' p:b='' p:xmlns=''/>", el(" u", "a", attrs("u& ", "b", "", "u& ", "xmlns", "")))
	is(t, "<a xmlns='u' xmlns:p='&lt;'/>", el("u", "a", nil)) // what is declared need not be used
}

func TestResolveAtATag(t *testing.T) { // I1: Resolve's error, of a tag's name and of an attribute's
	for _, x := range []string{"p:a", "xmlns:a", "P:a", "q:a", "a:b:c", "a:", ":a", ":", "p:1"} {
		for _, s := range []string{"<_/>", "<_></_>", "<_>", "<z><_/></z>", "<z xmlns='u'><_/></z>", "<z><z xmlns:p='u' xmlns:q='v'/><_/></z>", "<z b=''><y/>x<_></_></z>", "<_ xmlns='u'/>", "<_ b='' c=''/>"} {
			refuses(t, strings.ReplaceAll(s, "_", x), api.ErrPrefix)
		}
	}
	for _, x := range []string{"p:b", "P:b", "q:b", "b:c:d", "b:", ":b"} {
		for _, s := range []string{"<a _=''/>", "<a _=''></a>", "<a c='' _='' d=''/>", "<z><a _=''/></z>", "<z xmlns='u'><a _=''/></z>", "<z><z xmlns:p='u' xmlns:q='v'/><a _=''/></z>", "<a xmlns='u' _=''/>", "<a xml:b='' _=''/>", "<xml:a _=''/>"} {
			refuses(t, strings.ReplaceAll(s, "_", x), api.ErrPrefix)
		}
	}
	is(t, "<a p:b='' xmlns:p='u'/>", el("", "a", attrs("u", "b", ""))) // what a tag declares holds in all of it
	is(t, "<p:a p:b='' b='' xmlns:p='u'/>", el("u", "a", attrs("u", "b", "", "", "b", "")))
	is(t, "<a b='' xmlns='u'/>", el("u", "a", attrs("", "b", ""))) // an attribute without a prefix has no space
}

func TestDoubles(t *testing.T) { // I1: attributes with one space and name
	for _, s := range []string{
		"<a xmlns:p='u' xmlns:q='u' p:b='1' q:b='2'/>",
		"<a xmlns:p='u' xmlns:q='u' q:b='1' p:b='1'/>",
		"<a p:b='1' q:b='1' xmlns:p='u' xmlns:q='u'/>",
		"<a p:b='1' xmlns:p='u' q:b='1' xmlns:q='u'/>",
		"<a p:b='1' c='2' p:c='3' d='4' q:b='5' xmlns:p='u' xmlns:q='u'/>",
		"<a c='1' p:c='2' q:c='3' r:c='4' xmlns:p='u' xmlns:q='v' xmlns:r='u'/>",
		"<z xmlns:p='u'><a xmlns:q='u' p:b='1' q:b='2'/></z>",
		"<z xmlns:p='u' xmlns:q='u'><a p:b='1' q:b='2'/></z>",
		"<z xmlns:p='v' xmlns:q='u'><a xmlns:p='u' p:b='1' q:b='2'/></z>",
		"<z xmlns:p='u' xmlns:q='u'><y><a/><a p:b='1' q:b='2'></a></y></z>",
		"<p:a xmlns='u' xmlns:p='u' xmlns:q='u' p:a='1' q:a='2'/>",
		"<a xmlns:p='u&lt;' xmlns:q='u&#60;' p:b='1' q:b='2'/>",
	} {
		refuses(t, s, api.ErrDouble)
		refuses(t, strings.Replace(s, "/>", ">", 1), api.ErrDouble)
	}
	is(t, "<a xmlns:p='u' xmlns:q='v' p:b='1' q:b='1'/>", el("", "a", attrs("u", "b", "1", "v", "b", "1")))
	is(t, "<a xmlns:p='u' xmlns:q='u' p:b='1' q:c='1'/>", el("", "a", attrs("u", "b", "1", "u", "c", "1")))
	is(t, "<a xmlns:p='u' xmlns:q='U' p:b='1' q:b='2' p:B='3'/>", el("", "a", attrs("u", "b", "1", "U", "b", "2", "u", "B", "3")))
	is(t, "<a xmlns:p='u' xmlns:q='u/' p:b='1' q:b='2'/>", el("", "a", attrs("u", "b", "1", "u/", "b", "2")))
	is(t, "<a xmlns='u' xmlns:p='u' b='1' p:b='2'/>", el("u", "a", attrs("", "b", "1", "u", "b", "2"))) // the default space is none of an attribute's
	is(t, "<a xmlns:p='u' p:b='1' b='2' xml:b='3'/>", el("", "a", attrs("u", "b", "1", "", "b", "2", xmls, "b", "3")))
	is(t, "<a xmlns:p='ub' xmlns:q='u' p:c='1' q:bc='2'/>", el("", "a", attrs("ub", "c", "1", "u", "bc", "2"))) // not one behind the other
	is(t, "<a xmlns:p='u' p:b='1'><a xmlns:q='u' q:b='1'/></a>", el("", "a", attrs("u", "b", "1"), el("", "a", attrs("u", "b", "1"))))
	is(t, "<a><b c='1'/><b c='1'/></a>", el("", "a", nil, el("", "b", attrs("", "c", "1")), el("", "b", attrs("", "c", "1"))))
}

func TestScopes(t *testing.T) { // I1: what an inner element adds, and takes over, ends with it
	b := func(space string, kids ...api.Node) api.Node { return el(space, "b", nil, kids...) }
	for s, want := range map[string]api.Node{
		"<b xmlns='u'><b/></b>":                                                                                 b("u", b("u")),
		"<b xmlns='u'><b xmlns='v'/><b/></b>":                                                                   b("u", b("v"), b("u")), // declared anew
		"<b xmlns='u'><b xmlns='v'></b><b/></b>":                                                                b("u", b("v"), b("u")),
		"<b xmlns='u'><b xmlns=''/><b/></b>":                                                                    b("u", b(""), b("u")), // undone
		"<b xmlns='u'><b xmlns=''><b/></b><b/></b>":                                                             b("u", b("", b("")), b("u")),
		"<b xmlns='u'><b xmlns=''><b xmlns='v'><b/></b><b/></b></b>":                                            b("u", b("", b("v", b("v")), b(""))),
		"<b xmlns='u'><b xmlns='v'><b xmlns='u'/></b></b>":                                                      b("u", b("v", b("u"))),
		"<b xmlns=''><b xmlns='u'/><b/></b>":                                                                    b("", b("u"), b("")),
		"<b><b xmlns='u'><b/></b><b/></b>":                                                                      b("", b("u", b("u")), b("")),
		"<b><b xmlns='u'/><b/></b>":                                                                             b("", b("u"), b("")),
		"<p:b xmlns:p='u'><b/></p:b>":                                                                           b("u", b("")),
		"<b xmlns='u'><p:b xmlns:p='v'><b/></p:b></b>":                                                          b("u", b("v", b("u"))),
		"<p:b xmlns:p='u'><p:b/></p:b>":                                                                         b("u", b("u")),
		"<p:b xmlns:p='u'><p:b xmlns:p='v'/><p:b/></p:b>":                                                       b("u", b("v"), b("u")),
		"<p:b xmlns:p='u'><p:b xmlns:p='v'><p:b/></p:b><p:b/></p:b>":                                            b("u", b("v", b("v")), b("u")),
		"<p:b xmlns:p='u'><q:b xmlns:q='v'/><q:b xmlns:q='w'/></p:b>":                                           b("u", b("v"), b("w")),
		"<p:b xmlns:p='u'><q:b xmlns:q='v'><p:b/><q:b/></q:b></p:b>":                                            b("u", b("v", b("u"), b("v"))),
		"<p:b xmlns:p='u' xmlns:q='v'><q:b/><q:b xmlns:p='w'><p:b/></q:b><p:b/></p:b>":                          b("u", b("v"), b("v", b("w")), b("u")),
		"<p:b xmlns:p='u'><b xmlns:q='v'><b xmlns:r='w'><p:b/><q:b/><r:b/></b></b></p:b>":                       b("u", b("", b("", b("u"), b("v"), b("w")))),
		"<p:b xmlns:p='u'><b xmlns:q='v'><b xmlns:r='w'/><q:b xmlns:s='x'/><b xmlns:t='y'><q:b/></b></b></p:b>": b("u", b("", b(""), b("v"), b("", b("v")))),
		"<b xmlns:p='u' xmlns='v'><p:b xmlns='w'><b/></p:b><b/></b>":                                            b("v", b("u", b("w")), b("v")),
		"<xml:b xmlns='u'><b/><xml:b/></xml:b>":                                                                 b(xmls, b("u"), b(xmls)),
		"<b xmlns='u' xmlns:P='v'><P:b xmlns:p='w'/></b>":                                                       b("u", b("v")),
	} {
		is(t, s, want)
	}
	is(t, "<a xmlns:p='u' p:b='1'><a p:b='2' xmlns:p='v'/><a p:b='3'/></a>", el("", "a", attrs("u", "b", "1"), el("", "a", attrs("v", "b", "2")), el("", "a", attrs("u", "b", "3"))))
	for _, s := range []string{ // a scope ends with its element
		"<a><b xmlns:p='u'/><p:b/></a>", "<a><b xmlns:p='u'></b><p:b/></a>", "<a><p:b xmlns:p='u'/><p:b/></a>", "<a><p:b xmlns:p='u'></p:b><b p:c=''/></a>", "<a><b xmlns:p='u'/><b p:c=''/></a>",
		"<a><b><c xmlns:p='u'/></b><p:b/></a>", "<a><b><c xmlns:p='u'/><p:c/></b></a>", "<a xmlns:q='v'><b xmlns:p='u'/><b><p:b/></b></a>", "<a xmlns:q='v'><b xmlns:p='u'/><b xmlns:r='u'><p:b/></b></a>",
		"<p:a><b xmlns:p='u'/></p:a>", "<a p:c=''><b xmlns:p='u'/></a>", "<a xmlns='u'><p:b/></a>"} {
		refuses(t, s, api.ErrPrefix)
	}
}

func TestScopesBesideOneAnother(t *testing.T) { // I1: each is that of the outer element, and its own
	want := el("", "a", nil)
	var s strings.Builder
	s.WriteString("<a xmlns:p0='o0' xmlns:p1='o1' xmlns:p2='o2'>")
	for _, x := range []string{"", "p0", "p1", "p2", "p3"} {
		for _, y := range []string{"p0", "p1", "p2"} {
			kid := el("", "b", nil, el("o"+y[1:], "c", nil))
			s.WriteString("<b")
			if x != "" {
				s.WriteString(" xmlns:" + x + "='" + x + "'")
			}
			if x == y {
				kid.Kids[0].Space = x
			}
			s.WriteString("><" + y + ":c/></b>")
			want.Kids = append(want.Kids, kid)
		}
	}
	is(t, s.String()+"</a>", want)
}

// faults are parts of a document that are wrong inside an element, whatever stands ahead of them, and their errors.
func faults() map[string]api.Errno {
	return map[string]api.Errno{
		"</b>":            api.ErrNest,
		"<b></c></b>":     api.ErrNest,
		"</p:a>":          api.ErrNest,
		"</a><a>":         api.ErrNest,
		"</a>x<a>":        api.ErrNest,
		"</a>&#32;<a>":    api.ErrNest,
		"</a></a>":        api.ErrNest,
		"<?p:q?>":         api.ErrPrefix,
		"</a><?p:q?>":     api.ErrPrefix,
		"<b><?p:q r?>":    api.ErrPrefix,
		"<p:b/>":          api.ErrPrefix,
		"<b p:c=''>":      api.ErrPrefix,
		"<b:c:d/>":        api.ErrPrefix,
		"<b xmlns:p=''/>": api.ErrPrefix,
		"<b xmlns:s='u' xmlns:t='u' s:c='' t:c=''/>":                  api.ErrDouble,
		"<b><c xmlns:s='u' xmlns:t='u' s:c='' t:c=''></c></b>":        api.ErrDouble,
		"<b" + listed(51, "c", "") + "/>":                             api.ErrLong,
		strings.Repeat("<b>", 30):                                     api.ErrLong,
		"<b>x</b>" + nested(30, "x"):                                  api.ErrLong,
		"<b>" + strings.Repeat("<c>", 28) + "<c><d/></c>" + "<?p:q?>": api.ErrLong,
	}
}

func TestWhatIsWrongFirst(t *testing.T) { // I1: of two things wrong the one whose token stands first is told
	for x, e := range faults() {
		for _, s := range []string{"<a>_</a>", "<a>_", "<a>x_", "<a b='1'><!--c--><b/>_</a>", "<a><b>x</b>&lt;_x", "<!--c--> <a>_"} {
			refuses(t, strings.ReplaceAll(s, "_", x), e)
		}
		for y := range faults() {
			refuses(t, "<a>"+x+y+"</a>", e)
			refuses(t, "<a>"+x+"<b/>x"+y, e)
		}
		for _, y := range []string{"x<a>", "&#32;<a>", "<![CDATA[]]><a>", "</a><a>", "<a/><a>", "<b></a>", "<a></a><b/>", "<a/>x<a>"} { // which is wrong ahead of it
			refuses(t, y+x, api.ErrNest)
		}
		refuses(t, "<?p:q?><a>"+x, api.ErrPrefix)
		refuses(t, "<p:a>"+x, api.ErrPrefix)
		refuses(t, "<a p:b=''>"+x, api.ErrPrefix)
	}
}

func TestLayer7First(t *testing.T) { // I1: layer 7's error, wherever it is
	bad := map[string]api.Errno{"&x;": api.ErrRef, "<b c='&x;'>": api.ErrRef, "<!DOCTYPE a>": api.ErrType, "<!x>": api.ErrTag, "<": api.ErrTag, "</>": api.ErrTag, "]]>": api.ErrTag, "<?xml version='1.0'?>": api.ErrTag, "<b c='' c=''/>": api.ErrDouble, "<b xmlns:p='u' xmlns:p='u'>": api.ErrDouble, "\x00": api.ErrUTF8, "\xff": api.ErrUTF8, "\uFFFE": api.ErrUTF8, strings.Repeat(" ", 100001): api.ErrLong}
	for y, e := range bad {
		refuses(t, " "+y, e)
		for _, s := range []string{" _<a/>", "<a>_</a>", "<a/>_", "<a>_", "<a/>x_", "<a>x_</a>", " x_"} {
			refuses(t, strings.ReplaceAll(s, "_", y), e)
		}
		for x := range faults() {
			refuses(t, "<a>"+x+y+"</a>", e)
			refuses(t, "<a>"+y+x+"</a>", e)
			refuses(t, "</a>"+x+y, e)
		}
	}
	for y, e := range bad {
		refuses(t, nested(31, y), e)
		refuses(t, "<a/><a"+listed(51, "b", "")+"/>"+y, e)
	}
	for _, n := range []int{99999, 100000} { // bytes of a document, no more
		is(t, "<a>"+strings.Repeat("x", n-7)+"</a>", el("", "a", nil, text(strings.Repeat("x", n-7))))
		refuses(t, strings.Repeat(" ", n), api.ErrNest)
	}
	for _, s := range []string{"<a>" + strings.Repeat("x", 99994) + "</a>", strings.Repeat(" ", 99997) + "<a/>", "<a/>" + strings.Repeat(" ", 99997), strings.Repeat("<a>", 33334), nested(15000, "")} {
		refuses(t, s, api.ErrLong)
	}
}

func TestLongDocuments(t *testing.T) { // I1
	x := strings.Repeat("x", 50000)
	is(t, "<a>"+x+strings.Repeat("<![CDATA[y]]>", 3500)+"</a>", el("", "a", nil, text(x+strings.Repeat("y", 3500))))
	is(t, "<a>"+strings.Repeat("x<![CDATA[y]]>", 7000)+"</a>", el("", "a", nil, text(strings.Repeat("xy", 7000))))
	is(t, "<a>"+strings.Repeat("<![CDATA[]]>", 8000)+"</a>", el("", "a", nil))
	is(t, "<a>"+strings.Repeat("x<b/>", 19000)+"</a>", el("", "a", nil, slices.Repeat([]api.Node{text("x"), el("", "b", nil)}, 19000)...))
	is(t, "<a>"+strings.Repeat("<!--x--><?p?>", 7000)+"</a>", el("", "a", nil, slices.Repeat([]api.Node{comment("x"), instr("p", "")}, 7000)...))
	is(t, "<a xmlns:p='u'>"+strings.Repeat("<p:b xmlns:p='v'/>", 5500)+"</a>", el("", "a", nil, slices.Repeat([]api.Node{el("v", "b", nil)}, 5500)...))
	is(t, strings.Repeat("<!--x--><?p?> ", 7000)+"<a/>", el("", "a", nil))
}
