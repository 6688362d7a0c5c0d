package token_test

import (
	"fmt"
	"reflect"
	"strconv"
	"strings"
	"testing"

	"broadsheet/api"
	"broadsheet/token"
)

// open, end, chars, refs, note, instruction and declaration are tokens as the chapter tells them.

func open(name string, attrs ...api.Pair) api.Token {
	return api.Token{Kind: api.Open, Name: name, Attrs: attrs}
}

func alone(name string, attrs ...api.Pair) api.Token {
	return api.Token{Kind: api.Open, Name: name, Attrs: attrs, Alone: true}
}

func end(name string) api.Token { return api.Token{Kind: api.Close, Name: name} }

func chars(data string) api.Token { return api.Token{Kind: api.Chars, Data: data} }

func refs(data string) api.Token { return api.Token{Kind: api.Chars, Data: data, Alone: true} }

func note(data string) api.Token { return api.Token{Kind: api.Note, Data: data} }

func instruction(name, data string) api.Token {
	return api.Token{Kind: api.PI, Name: name, Data: data}
}

func declaration() api.Token { return api.Token{Kind: api.Decl} }

func list(l ...api.Token) []api.Token { return l }

// same tells whether both are the same tokens.
func same(a, b []api.Token) bool {
	if len(a) != len(b) {
		return false
	}
	for i := range a {
		x, y := a[i], b[i]
		if len(x.Attrs) == 0 && len(y.Attrs) == 0 { // nil or not
			x.Attrs, y.Attrs = nil, nil
		}
		if !reflect.DeepEqual(x, y) {
			return false
		}
	}
	return true
}

// shown is tokens as a failure tells them.
func shown(l []api.Token) string { return fmt.Sprintf("%.200q", fmt.Sprint(l)) }

// has fails unless those are the tokens of s.
func has(t *testing.T, s string, want ...api.Token) {
	t.Helper()
	if got, e := token.Tokens(s); !same(got, want) || e != api.OK {
		t.Errorf("Tokens %.200q: %s, %d, not %s", s, shown(got), e, shown(want))
	}
}

// refuses fails unless s has that error, and nothing is told.
func refuses(t *testing.T, s string, want api.Errno) {
	t.Helper()
	if got, e := token.Tokens(s); len(got) != 0 || e != want {
		t.Errorf("Tokens %.200q: %s, %d, not %d", s, shown(got), e, want)
	}
}

// agrees fails unless Tokens answers what the chapter's words ask.
func agrees(t *testing.T, s string) {
	t.Helper()
	want, wantE := tokens(s)
	if got, e := token.Tokens(s); !same(got, want) || e != wantE {
		t.Fatalf("Tokens %.200q: %s, %d, not %s, %d", s, shown(got), e, shown(want), wantE)
	}
}

// anywhere fails unless s is that token at the head, in the middle and at the end, and beside its like.
func anywhere(t *testing.T, s string, want api.Token) {
	t.Helper()
	has(t, s, want)
	has(t, s+s, want, want)
	has(t, s+"x<b/>", want, chars("x"), alone("b"))
	has(t, "<b c='d'>"+s+"</b>", open("b", api.Pair{Name: "c", Value: "d"}), want, end("b"))
	has(t, "x"+s, chars("x"), want)
	has(t, "x"+s+"y", chars("x"), want, chars("y"))
	has(t, " <!-- -->"+s, chars(" "), note(" "), want)
	has(t, "<?p?>"+s+"<?p?>", instruction("p", ""), want, instruction("p", ""))
	has(t, "<![CDATA[]]>"+s+"<![CDATA[<]]>", refs(""), want, refs("<"))
	has(t, "<?xml version='1.0'?>"+s, declaration(), want)
	has(t, "\n<b><c></c></b>"+s+"\n", chars("\n"), open("b"), open("c"), end("c"), end("b"), want, chars("\n"))
}

// nowhere fails unless s has that error at the head, in the middle and at the end, whatever else is there.
func nowhere(t *testing.T, s string, want api.Errno) {
	t.Helper()
	refuses(t, s, want)
	for _, ahead := range []string{"<b c='d'>", "x", "&lt;", " <!-- -->", "<?p?>", "<![CDATA[&x;]]>", "</b>", "<?xml version='1.0'?>", "\r\n<b/>"} {
		refuses(t, ahead+s, want)
	}
}

// pairs are attributes: names and values, in turn.
func pairs(l ...string) []api.Pair {
	var told []api.Pair
	for i := 0; i < len(l); i += 2 {
		told = append(told, api.Pair{Name: l[i], Value: l[i+1]})
	}
	return told
}

func TestNothing(t *testing.T) { // G1
	has(t, "")
}

func TestComments(t *testing.T) { // G1
	for _, data := range []string{"", "c", " ", " - ", "-c", "c -c", "- - ", "<", "<a>", "</a>", "&x;", "&lt;", "&", "]]>", "<![CDATA[", "<!DOCTYPE a>", "<?xml?>", "?>", ">", "->", "->->", "<!- - ", "'", "\"", "é😀", "\n\n", "\t a", "a=b", "!", "<!- "} {
		anywhere(t, "<!--"+data+"-->", note(data))
	}
	has(t, "<!---->", note(""))
	has(t, "<!---->-->", note(""), chars("-->"))
	has(t, "<!--a-->b-->", note("a"), chars("b-->"))
	has(t, "<!--a--><!--b-->", note("a"), note("b"))
	for _, s := range []string{
		"<!--a--b-->", "<!----b-->", "<!--a-- -->", "<!--a-- >", "<!--a--\n>", "<!--a--<", "<!-- -- -->", "<!--a--->", "<!----->", "<!------>", "<!--a---->", "<!----->-->", "<!-- --- -->",
		"<!--", "<!---", "<!--a", "<!--a-", "<!--a--", "<!--a>", "<!--a->", "<!-->", "<!--->", "<!--a--]", "<!--a--!>", "<!--<!---->", "<!--a- ->", "<!--<!--a-->",
	} {
		nowhere(t, s, api.ErrTag)
	}
	refuses(t, "<!--a--b--><!DOCTYPE a>", api.ErrTag)
	refuses(t, "<!--a--><!DOCTYPE a>", api.ErrType)
	refuses(t, "<!--&x;-->&x;", api.ErrRef)
}

func TestCharactersAsTheyAre(t *testing.T) { // G1: <![CDATA[
	for _, data := range []string{"", "x", " ", "<", ">", "&", "&lt;", "&x;", "&#0;", "<a b='c'/>", "</a", "]", "]]", "]]]", "] ]>", "]>", "]] >", "]x]>", "<![CDATA[", "<![CDATA[x", "-->", "<!--", "<!DOCTYPE a>", "?>", "<?xml?>", "é😀", "\n", "\t\t", "'\"", "["} {
		anywhere(t, "<![CDATA["+data+"]]>", refs(data))
	}
	has(t, "<![CDATA[]]]>", refs("]"))
	has(t, "<![CDATA[]]]]>", refs("]]"))
	has(t, "<![CDATA[a]]]>b", refs("a]"), chars("b"))
	has(t, "<![CDATA[a]]]]><![CDATA[>b]]>", refs("a]]"), refs(">b"))
	has(t, "<![CDATA[a]]><![CDATA[b]]>", refs("a"), refs("b"))
	has(t, "a<![CDATA[b]]>c&lt;<![CDATA[&lt;]]>", chars("a"), refs("b"), refs("c<"), refs("&lt;"))
	has(t, "]]<![CDATA[>]]>", chars("]]"), refs(">"))
	for _, s := range []string{
		"<![CDATA[", "<![CDATA[x", "<![CDATA[]", "<![CDATA[]]", "<![CDATA[x]]", "<![CDATA[]>", "<![CDATA[x]>", "<![CDATA[] ]>", "<![CDATA[]] >", "<![CDATA[]]&gt;", "<![CDATA[x>", "<![CDATA[<a>", "<![CDATA[<![CDATA[]]", "<![CDATA[&x;",
		"<![cdata[x]]>", "<![CData[x]]>", "<![CDATA x]]>", "<![CDATA [x]]>", "<! [CDATA[x]]>", "<![ CDATA[x]]>", "<![CDATA", "<![CDATA]]>", "<![", "<![]]>", "<![CDAT[x]]>", "<![INCLUDE[x]]>", "< ![CDATA[x]]>",
	} {
		nowhere(t, s, api.ErrTag)
	}
	refuses(t, "<![CDATA[x]]>]]>", api.ErrTag)
	refuses(t, "<![CDATA[x]]>x]]>", api.ErrTag)
	refuses(t, "<![CDATA[&x;]]>&x;", api.ErrRef)
	refuses(t, "<![CDATA[x<!DOCTYPE a>", api.ErrTag)
}

func TestTypes(t *testing.T) { // G1: <!DOCTYPE, and any other <!
	for _, s := range []string{"<!DOCTYPE", "<!DOCTYPE ", "<!DOCTYPE a>", "<!DOCTYPE>", "<!DOCTYPEa>", "<!DOCTYPE\n", "<!DOCTYPE a SYSTEM 'b'>", "<!DOCTYPE a [<!ENTITY b 'c'>]>", "<!DOCTYPE<", "<!DOCTYPE&x;", "<!DOCTYPE]]>", "<!DOCTYPE<!x>", "<!DOCTYPES>"} {
		nowhere(t, s, api.ErrType)
		refuses(t, s+"<", api.ErrType)
	}
	for _, s := range []string{"<!", "<!>", "<!x", "<!x>", "<! >", "<!-", "<!->", "<!- -->", "<!- - -->", "<!D", "<!DOCTYP", "<!DOCTYP a>", "<!doctype a>", "<!Doctype a>", "<!DOCTYPe a>", "<! DOCTYPE a>", "<!\nDOCTYPE a>", "<!ELEMENT a ANY>", "<!ENTITY a 'b'>", "<!ATTLIST a>", "<!NOTATION a>", "<!\x44OCTYPX", "<!<!DOCTYPE a>", "<!&x;"} {
		nowhere(t, s, api.ErrTag)
		refuses(t, s+"<!DOCTYPE a>", api.ErrTag)
	}
	has(t, "<!--<!DOCTYPE a>-->", note("<!DOCTYPE a>"))
	has(t, "!DOCTYPE a>", chars("!DOCTYPE a>"))
}

func TestInstructions(t *testing.T) { // G1
	for s, want := range map[string]api.Token{
		"<?p?>":                  instruction("p", ""),
		"<?p ?>":                 instruction("p", ""),
		"<?p\t?>":                instruction("p", ""),
		"<?p\n?>":                instruction("p", ""),
		"<?p \t\n ?>":            instruction("p", ""),
		"<?p q?>":                instruction("p", "q"),
		"<?p  q ?>":              instruction("p", "q "),
		"<?p\tq\t?>":             instruction("p", "q\t"),
		"<?p\nq\n\n?>":           instruction("p", "q\n\n"),
		"<?p \t\n q  r ?>":       instruction("p", "q  r "),
		"<?p q='r' s=\"t\"?>":    instruction("p", "q='r' s=\"t\""),
		"<?p '?>":                instruction("p", "'"),
		"<?p <a>?>":              instruction("p", "<a>"),
		"<?p &x;?>":              instruction("p", "&x;"),
		"<?p &lt;?>":             instruction("p", "&lt;"),
		"<?p ]]>?>":              instruction("p", "]]>"),
		"<?p -->?>":              instruction("p", "-->"),
		"<?p <!DOCTYPE a>?>":     instruction("p", "<!DOCTYPE a>"),
		"<?p ??>":                instruction("p", "?"),
		"<?p ?q?>":               instruction("p", "?q"),
		"<?p ? >?>":              instruction("p", "? >"),
		"<?p q??>":               instruction("p", "q?"),
		"<?p <?q ?>":             instruction("p", "<?q "),
		"<?p >?>":                instruction("p", ">"),
		"<?p:q r?>":              instruction("p:q", "r"),
		"<?:?>":                  instruction(":", ""),
		"<?_ _?>":                instruction("_", "_"),
		"<?p-1.2 3?>":            instruction("p-1.2", "3"),
		"<?p é😀?>":               instruction("p", "é😀"),
		"<?p \u00A0?>":           instruction("p", "\u00A0"), // this is no space
		"<?p \u2028q?>":          instruction("p", "\u2028q"),
		"<?xmls x?>":             instruction("xmls", "x"),
		"<?xm l?>":               instruction("xm", "l"),
		"<?xml-stylesheet a?>":   instruction("xml-stylesheet", "a"),
		"<?xmlx?>":               instruction("xmlx", ""),
		"<?x:xml?>":              instruction("x:xml", ""),
		"<?xml: ?>":              instruction("xml:", ""),
		"<?p xml?>":              instruction("p", "xml"),
		"<?_xml version='1.0'?>": instruction("_xml", "version='1.0'"),
	} {
		anywhere(t, s, want)
	}
}

func TestWhatIsNoInstruction(t *testing.T) { // G1
	for _, s := range []string{
		"<?", "<??>", "<? ?>", "<? p?>", "<?\np?>", "<?>", "<?/p?>", "<?-p?>", "<?1?>", "<?.p?>", "<?'p'?>", "<?&lt;?>", "<?<p?>", "<?!p?>", "<?=?>",
		"<?p", "<?p ", "<?p?", "<?p ?", "<?p q", "<?p q?", "<?p>", "<?p >", "<?p q>", "<?p q? >", "<?p/>", "<?p <a>", "<?p -->", "<?p ]]>", "<?p <?q",
		"<?p??>", "<?p?q?>", "<?p/?>", "<?p=q?>", "<?p,q?>", "<?p'q'?>", "<?p<q?>", "<?p&q;?>", "<?p>?>", "<?p:q?r?>", "<?p;?>", "<?p\u00A0q?>", "<?p\u2028?>", "<?p\x7fq?>", "<?p?? ?>",
		"<?XML?>", "<?XML x?>", "<?Xml x?>", "<?xMl x?>", "<?xmL x?>", "<?XMl x?>", "<?XmL x?>", "<?xML x?>", "<?XML ?>", "<?XML\n?>", "<?XML", "<?xml?>", "<?xml", "<?xmL", "<?xml>",
	} {
		nowhere(t, s, api.ErrTag)
	}
	for _, s := range []string{"<?xml ?>", "<?xml x?>", "<?xml\t?>", "<?xml ", "<?xml version='1.0'?>"} {
		nowhere(t, " "+s, api.ErrTag)
		nowhere(t, "<?p?>"+s, api.ErrTag)
	}
	refuses(t, "<?p??><!DOCTYPE a>", api.ErrTag)
	refuses(t, "<?p?><!DOCTYPE a>", api.ErrType)
	refuses(t, "<?p &x;?>&x;", api.ErrRef)
	has(t, "<?p?>?>", instruction("p", ""), chars("?>"))
	has(t, "<?p?><?p ?><?q r?>", instruction("p", ""), instruction("p", ""), instruction("q", "r"))
	has(t, "<?p a?>b?>", instruction("p", "a"), chars("b?>"))
}

func TestEndTags(t *testing.T) { // G1
	for _, name := range []string{"a", "p:a", ":", "_", "a-b.c1", "é", "\U00010000\u00B7", "xml", "a:b:c", strings.Repeat("n", 9000)} {
		for _, behind := range []string{"", " ", "\t", "\n", "  ", " \t\n "} {
			anywhere(t, "</"+name+behind+">", end(name))
		}
		anywhere(t, "</"+name+"\r\n>", end(name))
	}
	has(t, "</a></b ></a>", end("a"), end("b"), end("a")) // whether they fit is not asked here
	has(t, "</a>>", end("a"), chars(">"))
	for _, s := range []string{
		"</", "</>", "</ >", "</ a>", "</\na>", "< /a>", "</a", "</a ", "</a\n", "</a/>", "</a />", "</a b>", "</a b='c'>", "</a>"[:3], "</a<", "</a<b/>", "</a </a>", "</a,>", "</a=>", "</a'>", "</a&lt;>", "</a;>",
		"</-a>", "</1>", "</.>", "</\u00B7>", "</&lt;>", "</'a'>", "</!a>", "</?a>", "<//a>", "</a//>", "</a\u00A0>", "</a\x7f>", "</a\u2028>", "</a]]>", "</\u00D7>", "</\u037E>",
	} {
		nowhere(t, s, api.ErrTag)
	}
	refuses(t, "</a b><!DOCTYPE a>", api.ErrTag)
	refuses(t, "</a><!DOCTYPE a>", api.ErrType)
}

func TestStartTags(t *testing.T) { // G1: space in each place, with and without attributes, both quotes
	for s, want := range map[string][]api.Pair{
		"":                                       nil,
		" b='1'":                                 pairs("b", "1"),
		" b=\"1\"":                               pairs("b", "1"),
		"\tb='1'":                                pairs("b", "1"),
		"\nb='1'":                                pairs("b", "1"),
		"\r\nb='1'":                              pairs("b", "1"),
		" \t\n b='1'":                            pairs("b", "1"),
		" b ='1'":                                pairs("b", "1"),
		" b= '1'":                                pairs("b", "1"),
		" b = '1'":                               pairs("b", "1"),
		" b\n=\t'1'":                             pairs("b", "1"),
		" b \t\n=\n\t '1'":                       pairs("b", "1"),
		" b\r=\r\"1\"":                           pairs("b", "1"),
		" b='1' c='2'":                           pairs("b", "1", "c", "2"),
		" b='1'\nc='2'\td=\"3\"":                 pairs("b", "1", "c", "2", "d", "3"),
		" c='1' b='1'":                           pairs("c", "1", "b", "1"), // in their order
		" b=''":                                  pairs("b", ""),
		" b=\"\"":                                pairs("b", ""),
		" b='\"'":                                pairs("b", "\""),
		" b=\"'\"":                               pairs("b", "'"),
		" b='\"\"' c=\"''\"":                     pairs("b", "\"\"", "c", "''"),
		" b='>'":                                 pairs("b", ">"),
		" b='/>'":                                pairs("b", "/>"),
		" b=']]>'":                               pairs("b", "]]>"),
		" b='-->'":                               pairs("b", "-->"),
		" b=' c=\"2\"'":                          pairs("b", " c=\"2\""),
		" b=' 1 '":                               pairs("b", " 1 "),
		" b='\t\n'":                              pairs("b", "  "),
		" b='\r\n'":                              pairs("b", " "), // one end of a line
		" b='\r\r\n\n'":                          pairs("b", "   "),
		" b='&#9;&#10;&#13;'":                    pairs("b", "\t\n\r"),
		" b='&#13;\n'":                           pairs("b", "\r "),
		" b='&lt;&gt;&amp;&quot;&apos;'":         pairs("b", "<>&\"'"),
		" b='&#x3C;&#39;'":                       pairs("b", "<'"),
		" b='&amp;lt;'":                          pairs("b", "&lt;"),
		" b='é😀'":                                pairs("b", "é😀"),
		" p:b='1'":                               pairs("p:b", "1"),
		" xmlns='u' xmlns:p='v'":                 pairs("xmlns", "u", "xmlns:p", "v"),
		" b='1' B='2'":                           pairs("b", "1", "B", "2"),
		" B='1' b='2'":                           pairs("B", "1", "b", "2"),
		" b='1' p:b='2' q:b='3'":                 pairs("b", "1", "p:b", "2", "q:b", "3"),
		" b='1' bb='2' b-b='3'":                  pairs("b", "1", "bb", "2", "b-b", "3"),
		" a='1'":                                 pairs("a", "1"), // as the element
		" :='1' _=\"2\" é='3'":                   pairs(":", "1", "_", "2", "é", "3"),
		" version='1.0' encoding='latin1'":       pairs("version", "1.0", "encoding", "latin1"),
		" b='" + strings.Repeat("v", 9000) + "'": pairs("b", strings.Repeat("v", 9000)),
	} {
		for _, name := range []string{"a", "p:a", ":", "_-.1", "é\U00010000", "xml", "XML"} {
			for _, behind := range []string{"", " ", "\t", "\n", "\r", "\r\n", "  \t\n"} {
				has(t, "<"+name+s+behind+">", open(name, want...))
				has(t, "<"+name+s+behind+"/>", alone(name, want...))
			}
		}
		anywhere(t, "<a"+s+">", open("a", want...))
		anywhere(t, "<a"+s+"/>", alone("a", want...))
	}
	has(t, "<a><b/></a>", open("a"), alone("b"), end("a"))
	has(t, "<a>>", open("a"), chars(">"))
	has(t, "<a/>/>", alone("a"), chars("/>"))
	has(t, "<a></b>", open("a"), end("b"))
}

func TestWhatIsNoStartTag(t *testing.T) { // G1
	for _, s := range []string{
		"<", "< ", "<>", "< >", "< a>", "<\na>", "<<a>", "</", "<-a>", "<1>", "<.a>", "<=>", "<'a'>", "<&lt;>", "<,", "<;", "<]", "<\u00B7>", "<\u00D7>", "<\u037E>", "<\U000F0000>",
		"<a", "<a ", "<a\n", "<a/", "<a /", "<a / >", "<a/ >", "<a//>", "<a/b>", "<a/ b='1'>", "<a /b='1'>", "<a<", "<a <", "<a<b>", "<a <b/>", "<a=>", "<a='1'>", "<a,>", "<a'>", "<a&lt;>", "<a\u00A0>", "<a\u00A0b='1'>", "<a\u2028b='1'>", "<a\x7f>", "<a?>", "<a!>",
		"<a b", "<a b>", "<a b/>", "<a b >", "<a b =", "<a b=", "<a b=>", "<a b= >", "<a b=/>", "<a b=1>", "<a b=c>", "<a b=`1`>", "<a b==1>", "<a b=='1'>", "<a b='1>", "<a b='", "<a b='1", "<a b=\"", "<a b=\"1'>", "<a b='1\">", "<a b=\"1\n>", "<a b=&quot;1&quot;>",
		"<a b='1'", "<a b='1' ", "<a b='1'/", "<a b='1' / >", "<a b='1'c='2'>", "<a b='1'c>", "<a b='1' c>", "<a b='1'c=\"2\"/>", "<a b='1'b='2'>", "<a b='1''>", "<a b='1'\">", "<a b='1''2'>", "<a b='1',c='2'>", "<a b='1' ='2'>", "<a b='1' '2'>", "<a b='1' 'c'>",
		"<a ='1'>", "<a '1'>", "<a 1='1'>", "<a -b='1'>", "<a .b='1'>", "<a b c='1'>", "<a b,='1'>", "<a b\u00A0='1'>", "<a b=\u00A0'1'>", "<a b='1'\u00A0>", "<a b='1'\u00A0c='2'>", "<a &lt;='1'>", "<a b!='1'>", "<a b:='1' ?>",
		"<a b='<'>", "<a b=\"<\">", "<a b='1<'>", "<a b='<1'/>", "<a b='&lt;<'>", "<a b='<&lt;'>", "<a b='<c/>'>", "<a b='1' c='<'>", "<a b='<' c='1'>", "<a b='<!---->'>", "<a b='<![CDATA[]]>'>", "<a b='<!DOCTYPE a>'>", "<a b='<", "<a b=<",
	} {
		nowhere(t, s, api.ErrTag)
		refuses(t, "<a b='1'/>"+s, api.ErrTag)
	}
	for _, ref := range []string{"&", "&;", "&x;", "&lt", "& lt;", "&#0;", "&#xFFFE;", "&#;", "&&amp;", "&LT;", "&nbsp;", "&lt;&x;", "\n&\n"} {
		for _, q := range []string{"'", "\""} {
			nowhere(t, "<a b="+q+ref+q+">", api.ErrRef)
			nowhere(t, "<a b="+q+ref+q+"/>", api.ErrRef)
			nowhere(t, "<a b="+q+"1"+ref+q+" />", api.ErrRef)
			nowhere(t, "<a b='1' c = "+q+ref+q+">", api.ErrRef)
			nowhere(t, "<a b="+q+ref+q+" c='1'>", api.ErrRef)
		}
	}
	for _, s := range []string{"<a b='1' b='1'>", "<a b='1' b='2'/>", "<a b='1' c='2' b='3'>", "<a c='1' b='2' b='3'>", "<a p:b='1' p:b='2'>", "<a xmlns='u' xmlns='u'/>", "<a b='' b=\"\">", "<a é='1'\né='2' >", "<a b='1' c='1' d='1' e='1' f='1' d='1'>"} {
		nowhere(t, s, api.ErrDouble)
	}
}

func TestTheFirstError(t *testing.T) { // G1: of several errors in a tag, from the left
	for s, want := range map[string]api.Errno{
		"<a b='&x;' c='<'>":           api.ErrRef,
		"<a b='&x;' c>":               api.ErrRef,
		"<a b='&x;' c":                api.ErrRef,
		"<a b='&x;'c='1'>":            api.ErrRef,
		"<a b='&x;'":                  api.ErrRef,
		"<a b='&x;'<":                 api.ErrRef,
		"<a b='&x;' / >":              api.ErrRef,
		"<a b='&x;' b='1'>":           api.ErrRef,
		"<a b='&x;' b='1' b='2'>":     api.ErrRef,
		"<a b='1' b='&x;'>":           api.ErrRef, // behind an attribute its value's error comes ahead of its being there twice
		"<a b='1' b='&x;'c>":          api.ErrRef,
		"<a b='1' b='2' c='&x;'>":     api.ErrDouble,
		"<a b='1' b='2' b='&x;'>":     api.ErrDouble,
		"<a b='1' b='2' c='<'>":       api.ErrDouble,
		"<a b='1' b='2' c>":           api.ErrDouble,
		"<a b='1' b='2'":              api.ErrDouble,
		"<a b='1' b='2'c='3'>":        api.ErrDouble,
		"<a b='1' b='2'<":             api.ErrDouble,
		"<a b='1' b='2' / >":          api.ErrDouble,
		"<a b='1' b='2'><!DOCTYPE a>": api.ErrDouble,
		"<a b='1' b='2'>&x;":          api.ErrDouble,
		"<a b='&x;'><c d='1' d='2'>":  api.ErrRef,
		"<a b='&x;'></a b>":           api.ErrRef,
		"<a b='1' b='2>":              api.ErrTag, // this is no attribute
		"<a b='1' b='2<'>":            api.ErrTag,
		"<a b='1' b=2>":               api.ErrTag,
		"<a b='1' b>":                 api.ErrTag,
		"<a b='1'b='2'>":              api.ErrTag,
		"<a b='1'b='&x;'>":            api.ErrTag,
		"<a b='&x;<'>":                api.ErrTag,
		"<a b='<&x;'>":                api.ErrTag,
		"<a b='&x;>":                  api.ErrTag,
		"<a b=\"&x;'>":                api.ErrTag,
		"<a b=&x;>":                   api.ErrTag,
		"<a b c='&x;'>":               api.ErrTag,
		"<a ='1' b='&x;'>":            api.ErrTag,
		"<1 b='&x;'>":                 api.ErrTag,
		"< a b='&x;'>":                api.ErrTag,
		"<a/ b='&x;'>":                api.ErrTag,
		"<a b='<' c='&x;'>":           api.ErrTag,
		"<a b='<' b='1'>":             api.ErrTag,
		"<a b='1' c='<' b='2'>":       api.ErrTag,
		"<a b='1'>&x;<c d='1' d='2'>": api.ErrRef,
		"<a b='1'>]]><c d='1' d='2'>": api.ErrTag,
		"&x;]]>":                      api.ErrTag, // of characters ]]> is told first
		"]]>&x;":                      api.ErrTag,
		"&x;<b>]]></b>":               api.ErrRef,
		"&x;<!DOCTYPE a>":             api.ErrRef,
		"<!DOCTYPE a>&x;":             api.ErrType,
		"<!x><!DOCTYPE a>":            api.ErrTag,
		"<!DOCTYPE a><!x>":            api.ErrType,
		"<!--a--b--><!DOCTYPE a>&x;":  api.ErrTag,
		"<a b='1' b='2'><a b='&x;'><": api.ErrDouble,
		"<a b='&x;'><a b='1' b='2'><": api.ErrRef,
		"<<a b='&x;'><a b='1' b='2'>": api.ErrTag,
		"<?xml version='2.0'?>&x;":    api.ErrTag,
		"<?xml version='1.0'?>&x;<":   api.ErrRef,
		"<a b='&x;'>\xff":             api.ErrUTF8, // what the whole is, comes ahead of its parts
		"<!DOCTYPE a>\x00":            api.ErrUTF8,
		"<\uFFFE":                     api.ErrUTF8,
	} {
		refuses(t, s, want)
	}
}

func TestCharacters(t *testing.T) { // G1
	for raw, want := range map[string]api.Token{
		"x":                  chars("x"),
		" ":                  chars(" "),
		"\n":                 chars("\n"),
		" \t\n":              chars(" \t\n"),
		"a b":                chars("a b"),
		">":                  chars(">"),
		"a>b":                chars("a>b"),
		"]":                  chars("]"),
		"]]":                 chars("]]"),
		"]>":                 chars("]>"),
		"]] >":               chars("]] >"),
		"] ]>":               chars("] ]>"),
		"]]\n>":              chars("]]\n>"),
		"]]]":                chars("]]]"),
		"-->":                chars("-->"),
		"?>":                 chars("?>"),
		"/>":                 chars("/>"),
		"'\"":                chars("'\""),
		";":                  chars(";"),
		"lt;":                chars("lt;"),
		"#65;":               chars("#65;"),
		"é😀\uFFFD":           chars("é😀\uFFFD"),
		"\uFEFF":             chars("\uFEFF"),
		"\x7f":               chars("\x7f"),
		"\u00A0\u0085\u2028": chars("\u00A0\u0085\u2028"), // no ends of lines
		"&lt;":               refs("<"),
		"x&lt;":              refs("x<"),
		"&lt;x":              refs("<x"),
		"&amp;":              refs("&"),
		"&amp;lt;":           refs("&lt;"),
		"&#65;&#x42;":        refs("AB"),
		"&#13;":              refs("\r"), // it stays: lines are made plain ahead of this
		"&#13;\n":            refs("\r\n"),
		"&#13;&#10;":         refs("\r\n"),
		"&quot;&apos;":       refs("\"'"),
		"]]&gt;":             refs("]]>"),
		"]&#93;>":            refs("]]>"),
		"&#93;]>":            refs("]]>"),
		"]]&#62;":            refs("]]>"),
		"&lt;a b='c'>":       refs("<a b='c'>"),
		"&lt;!--":            refs("<!--"),
		"&#60;":              refs("<"),
		"&#x1F600;":          refs("😀"),
	} {
		has(t, raw, want)
		has(t, "<a>"+raw+"</a>", open("a"), want, end("a"))
		has(t, raw+"<a/>", want, alone("a"))
		has(t, "<a/>"+raw, alone("a"), want)
		has(t, "<!---->"+raw+"<?p?>", note(""), want, instruction("p", ""))
		has(t, "<![CDATA[x]]>"+raw+"<![CDATA[&]]>", refs("x"), want, refs("&"))
		has(t, raw+"<!---->"+raw, want, note(""), want) // these are two, though nothing is between
	}
	for _, s := range []string{"]]>", "a]]>", "]]>a", "a]]>b", "]]]>", "]]]]>", "&lt;]]>", "]]>&lt;", "\n]]>\n", "]]]]>>", "&x;]]>", "]]>&x;", "&]]>", "]] > ]]>"} {
		nowhere(t, s+"<a/>", api.ErrTag)
		refuses(t, s, api.ErrTag)
		refuses(t, "<a>"+s+"</a>", api.ErrTag)
		refuses(t, "<a/>"+s, api.ErrTag)
	}
	for _, s := range []string{"&", "& ", "&;", "&x;", "&lt", "&LT;", "&nbsp;", "&#0;", "&#xD800;", "&#xFFFE;", "&#x110000;", "&#;", "&&amp;", "a&b", "x&lt;y&z;", "a & b", "&lt;&"} {
		refuses(t, s, api.ErrRef)
		refuses(t, s+"<a/>", api.ErrRef)
		refuses(t, "<a>"+s+"</a>", api.ErrRef)
		refuses(t, "<a/>"+s, api.ErrRef)
		refuses(t, "<a/>"+s+"<!DOCTYPE a>", api.ErrRef)
	}
	refuses(t, "&l<!---->t;", api.ErrRef) // a reference is in one token
	has(t, "]]<!---->>", chars("]]"), note(""), chars(">"))
	has(t, "]<![CDATA[]]]>>", chars("]"), refs("]"), chars(">"))
}

func TestLines(t *testing.T) { // G1: those that end with 13, or with 13 and 10
	for _, x := range []string{"\r", "\r\n", "\n"} {
		s := strings.NewReplacer("_", x)
		has(t, x, chars("\n"))
		has(t, x+x, chars("\n\n"))
		for raw, want := range map[string][]api.Token{
			"a_b":                         list(chars("a\nb")),
			"_<a>_</a>_":                  list(chars("\n"), open("a"), chars("\n"), end("a"), chars("\n")),
			"<a_b_=_'_'_>":                list(open("a", pairs("b", " ")...)),
			"<a_b=\"_&#13;_&#10;_\"_/>":   list(alone("a", pairs("b", " \r \n ")...)),
			"</a_>":                       list(end("a")),
			"<!--_c_-->":                  list(note("\nc\n")),
			"<![CDATA[_c_]]>":             list(refs("\nc\n")),
			"<?p_?>":                      list(instruction("p", "")),
			"<?p__q_?>":                   list(instruction("p", "q\n")),
			"<?xml_version='1.0'_?>_<a/>": list(declaration(), chars("\n"), alone("a")),
			"&lt;_&#13;_":                 list(refs("<\n\r\n")),
			"]]_>":                        list(chars("]]\n>")),
		} {
			has(t, s.Replace(raw), want...)
		}
	}
	has(t, "a\r\r\nb\n\rc", chars("a\n\nb\n\nc"))
	has(t, "\r<!--\r\n-->\n\r", chars("\n"), note("\n"), chars("\n\n"))
	has(t, "\r<![CDATA[\n]]>\r\n", chars("\n"), refs("\n"), chars("\n"))
}

func TestLengths(t *testing.T) { // G1: 100000 bytes, and one byte more
	long := func(n int, ahead, behind string) string {
		return ahead + strings.Repeat("x", n-len(ahead)-len(behind)) + behind
	}
	for _, x := range []struct{ ahead, behind string }{{"", ""}, {"<", ">"}, {"</", ">"}, {"<a ", "='1'/>"}, {"<a b='", "'>"}, {"<!--", "-->"}, {"<![CDATA[", "]]>"}, {"<?", "?>"}, {"<?p ", "?>"}, {"<a>", "</a>"}, {"&lt;", "&gt;"}, {"\r\n", "\r\n"}, {"é", "é"}} {
		if l, e := token.Tokens(long(100000, x.ahead, x.behind)); len(l) == 0 || e != api.OK {
			t.Errorf("100000 bytes between %q and %q: %d tokens, %d", x.ahead, x.behind, len(l), e)
		}
		agrees(t, long(99999, x.ahead, x.behind))
		agrees(t, long(100000, x.ahead, x.behind))
		refuses(t, long(100001, x.ahead, x.behind), api.ErrLong)
		refuses(t, long(200000, x.ahead, x.behind), api.ErrLong)
	}
	for _, s := range []string{"\x00", "\xff", "<", "<!DOCTYPE a>", "&x;", "]]>", "<a b='1' b='2'>"} { // ErrLong is told first
		refuses(t, long(100001, s, ""), api.ErrLong)
		refuses(t, long(100001, "", s), api.ErrLong)
		agrees(t, long(100000, s, ""))
		agrees(t, long(100000, "", s))
	}
	refuses(t, strings.Repeat("é", 50001), api.ErrLong) // bytes, not code points
	has(t, strings.Repeat("é", 50000), chars(strings.Repeat("é", 50000)))
	refuses(t, strings.Repeat("\r\n", 50001), api.ErrLong) // as it is handed in
	has(t, strings.Repeat("\r\n", 50000), chars(strings.Repeat("\n", 50000)))
	refuses(t, "\r\n"+strings.Repeat("x", 99999), api.ErrLong)
	refuses(t, strings.Repeat("<", 100000), api.ErrTag)
	refuses(t, strings.Repeat("<a>", 33333)+"<", api.ErrTag)
}

func TestManyTokens(t *testing.T) { // G1
	for _, s := range []string{"<a>", "</a>", "<a/>", "<!---->", "<![CDATA[]]>", "<?p?>", "<a/>x", "&lt;<!----><a b='&lt;'>"} {
		n := 100000 / len(s)
		one, _ := tokens(s)
		got, e := token.Tokens(strings.Repeat(s, n))
		if len(got) != n*len(one) || e != api.OK {
			t.Errorf("%q, %d times: %d, %d", s, n, len(got), e)
		}
		for i, x := range got {
			if !same(list(x), list(one[i%len(one)])) {
				t.Fatalf("%q, %d times: %v", s, i, x)
			}
		}
	}
	var b strings.Builder
	var want []api.Pair
	for i := range 8000 { // more attributes than an element may have are no fault here
		name := "b" + strconv.Itoa(i)
		b.WriteString(" " + name + "='" + "'")
		want = append(want, api.Pair{Name: name})
	}
	has(t, "<a"+b.String()+">", open("a", want...))
	refuses(t, "<a"+b.String()+" b0=''>", api.ErrDouble)
	refuses(t, "<a"+b.String()+" b7999=''>", api.ErrDouble)
}

func TestWhatIsNoText(t *testing.T) { // G1: what is no UTF-8, or may not stand in a document
	for _, bad := range []string{"\x00", "\x01", "\x08", "\x0b", "\x0c", "\x0e", "\x1f", "\x80", "\xbf", "\xc0\x80", "\xc1\xbf", "\xc3", "\xe2\x82", "\xe0\x80\x80", "\xed\xa0\x80", "\xed\xbf\xbf", "\xef\xbf\xbe", "\xef\xbf\xbf", "\xf0\x9f\x98", "\xf4\x90\x80\x80", "\xf8\x88\x80\x80\x80", "\xff", "\xfe"} {
		for _, s := range []string{"_", "a_", "_a", "<_>", "<a_>", "<a _='1'>", "<a b='_'>", "</a_>", "<!--_-->", "<![CDATA[_]]>", "<?_?>", "<?p _?>", "<?xml version='1.0'?>_", "<a/>_", "_<a/>", "<_", "<!DOCTYPE a>_", "&x;_", "<a b='1' b='2'>_", "]]>_"} {
			refuses(t, strings.ReplaceAll(s, "_", bad), api.ErrUTF8)
		}
	}
}
