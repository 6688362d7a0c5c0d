package token_test

import (
	"slices"
	"strings"
	"testing"

	"broadsheet/api"
	"broadsheet/token"
)

func TestPieces(t *testing.T) { // G1: texts of what is looked for, good and bad, against the chapter's words
	for _, x := range []struct {
		ahead  string
		pieces []string
		n      int
	}{
		{"", []string{"<", ">", "/", "!", "?", "-", "a", "=", "'", " ", "&", "]", "[", "\r"}, 5},
		{"", []string{"<a", "</a", "/>", ">", " ", "b='", "'", "&lt;", "&x;", "x", "\n"}, 5},
		{"", []string{"<!--", "--", "-", ">", "x", "<!", "&"}, 6},
		{"", []string{"<![CDATA[", "]", "]]>", ">", "x", "<", "&"}, 6},
		{"", []string{"<?", "?>", "?", ">", "p", " ", "\t", "xml", "<"}, 6},
		{"", []string{"<!", "DOCTYPE", "doctype", "<a>", "x", "&", "[CDATA[", "--"}, 6},
		{"<a", []string{" ", " b", "=", "'1'", "\"&lt;\"", "'&'", "c", "/", ">", "<", "\n"}, 5},
		{"<a", []string{" b='1'", " c=\"2\"", " b='&x;'", " d='<'", " ", "=", "/>", ">", " e", "'"}, 5},
		{"</a", []string{" ", "\r", ">", "b", "/", "\t", "<", "="}, 6},
		{"<?xml", []string{" ", "version", "=", "'1.0'", "\"1.1\"", "?>", "encoding='UTF-8'", "standalone='no'", "x"}, 5},
		{"<?xml version='1.0'", []string{" ", "\n", "encoding", "standalone", "=", "'utf-8'", "\"yes\"", "?>", "x", "'"}, 5},
		{"<?xml version='1.0' encoding=\"UTF-8\"", []string{" ", "\t", "standalone", "=", "'yes'", "\"no\"", "?", ">", "x"}, 5},
		{"<?xml version='1", []string{".", "0", "9", "'", "?>", "1", "/", ":", " "}, 5},
		{"&", []string{"lt;", "#65;", "]]>", "&", "<a>", ">", "]", "\r\n"}, 6},
	} {
		texts(x.pieces, x.n, func(s string) { agrees(t, x.ahead+s) })
	}
}

func TestEachByte(t *testing.T) { // G1: at every place where it stands beside what is looked for
	for c := range 256 {
		for _, s := range []string{"_", "<_", "</_", "<?_", "<!_", "<!-_", "<![_", "<![CDATA_", "<!DOCTYP_", "<!DOCTYPE_", "<a_", "<a_>", "<a_/>", "<a/_", "<a/_>", "<a _", "<a _>", "<a b_='1'>", "<a b=_'1'>", "<a b=_", "<a b='1'_>", "<a b='1'_c='2'>", "<a b=_1_>",
			"<a b='_'>", "<a b=\"_\"/>", "<a_b='1'>", "<a _='1'>", "<a _b='1'>", "</a_>", "</_>", "</_a>", "<!--_-->", "<!---_->", "<!----_", "<!--a-_->", "<!--a--_", "<!--a--_>", "<![CDATA[_]]>", "<![CDATA[]_]>", "<![CDATA[]]_>", "<![CDATA[]]_", "<?p_?>", "<?p_q?>", "<?p _?>", "<?p ?_>", "<?_?>", "<?p?_", "<?x_l?>", "<?_ml?>", "<?xm_?>", "<?xml_?>",
			"<?xml_version='1.0'?>", "<?xml _version='1.0'?>", "<?xml version_='1.0'?>", "<?xml version=_'1.0'?>", "<?xml version='_.0'?>", "<?xml version='1_0'?>", "<?xml version='1._'?>", "<?xml version='1.0_'?>", "<?xml version='1.0'_?>", "<?xml version='1.0'?_", "<?xml version='1.0'?_>", "<?xml version=_1.0_?>",
			"<?xml version='1.0'_encoding='UTF-8'?>", "<?xml version='1.0' _ncoding='UTF-8'?>", "<?xml version='1.0' encoding='_TF-8'?>", "<?xml version='1.0' encoding='U_F-8'?>", "<?xml version='1.0' encoding='UT_-8'?>", "<?xml version='1.0' encoding='UTF_8'?>", "<?xml version='1.0' encoding='UTF-_'?>", "<?xml version='1.0' encoding='UTF-8'_?>",
			"<?xml version='1.0'_standalone='yes'?>", "<?xml version='1.0' _tandalone='yes'?>", "<?xml version='1.0' standalone='_es'?>", "<?xml version='1.0' standalone='n_'?>", "<?xml version='1.0' standalone='no'_?>",
			"a_b", "]]_", "]_>", "&_;", "&lt_", "_&lt;", "<a>_</a>", "<a/>_<!---->"} {
			agrees(t, strings.ReplaceAll(s, "_", string([]byte{byte(c)})))
			agrees(t, strings.ReplaceAll(s, "_", string(rune(c))))
		}
	}
}

func TestEachCodePointAsALetter(t *testing.T) { // G1: xml and UTF-8 are told by their letters alone, great or small
	for c := range rune(0x10000) {
		for _, s := range []string{"<?_ml?>", "<?x_l?>", "<?xm_?>"} {
			agrees(t, strings.ReplaceAll(s, "_", string(c)))
		}
		for _, s := range []string{"_TF-8", "U_F-8", "UT_-8", "UTF_8", "UTF-_"} {
			agrees(t, "<?xml version='1.0' encoding='"+strings.ReplaceAll(s, "_", string(c))+"'?>")
		}
	}
}

// parts are texts with tokens, of which those of each kind stand at the head, and at the end, of some.
func parts() []string {
	return []string{
		"", "<a>", "<a b='1'>", "<a b=\"&lt;>\" />", "<a/>", "</a>", "</a\n>", "<!---->", "<!-- <a> -->", "<?p?>", "<?p <a> ?>", "<?xmlish?>",
		"x", "&lt;", "]]", ">", "\r", "\n", "\r\n", " ", "<![CDATA[]]>", "<![CDATA[<]]>", "é",
		"<?xml version='1.0'?>", "<?xml\tversion='1.0' encoding='utf-8' standalone='no' ?>", "<?xml version=\"1.1\"?>\r\n<a>",
		"<a>x</a>", "x<a/>", "<a/>x", "<a><![CDATA[x]]></a>", "<![CDATA[x]]><a/>", "<a/><![CDATA[x]]>", "<a>\r</a>\r", "\n<a>\n", "<a><b c='d' e='f'>g&amp;<!--h--><?i j?></b></a>",
		"-->", "<!--a-->-->", "]]<a/>", "><a/>", "a='b'>", "<a>&#13;</a>",
	}
}

// isChars tells whether a token is characters.
func isChars(x api.Token) bool { return x.Kind == api.Chars }

func TestTwoTextsSideBySide(t *testing.T) { // G2
	for _, a := range parts() {
		for _, b := range parts() {
			sideBySide(t, a, b)
			agrees(t, a+b)
		}
	}
	texts([]string{"<a>", "</a>", "<!--x-->", "<?p q?>", "x", "&lt;", "\r", "<![CDATA[x]]>", "<a b='c'/>"}, 5, func(s string) {
		for i := range s {
			if s[i] == '<' {
				sideBySide(t, s[:i], s[i:])
			}
		}
	})
}

// sideBySide fails unless the tokens of a and b are those of both together, where G2 says that they are.
func sideBySide(t *testing.T, a, b string) {
	t.Helper()
	l, e := token.Tokens(a)
	k, f := token.Tokens(b)
	if e != api.OK || f != api.OK || len(l) > 0 && isChars(l[len(l)-1]) || len(k) > 0 && isChars(k[0]) {
		return
	}
	if len(l) > 0 && len(k) > 0 && k[0].Kind == api.Decl {
		refuses(t, a+b, api.ErrTag) // it is none but at the very head
		b, k = b[strings.Index(b, "?>")+2:], k[1:]
		if len(k) > 0 && isChars(k[0]) {
			return
		}
	}
	has(t, a+b, slices.Concat(l, k)...)
}

func TestWhatIsPutBetweenTags(t *testing.T) { // G2
	puts := map[string][]api.Token{
		"<!---->":                         list(note("")),
		"<!--x-->":                        list(note("x")),
		"<!--<a b='&x;'>]]>-->":           list(note("<a b='&x;'>]]>")),
		"<?p?>":                           list(instruction("p", "")),
		"<?p <a b='&x;'> ]]> ?>":          list(instruction("p", "<a b='&x;'> ]]> ")),
		"<!--\r\n--><?p\rq?><!----><?p?>": list(note("\n"), instruction("p", "q"), note(""), instruction("p", "")),
	}
	tags := map[string]api.Token{
		"<a>": open("a"), "<a b='&lt;' c=\"2\">": open("a", pairs("b", "<", "c", "2")...), "<a />": alone("a"), "</a>": end("a"), "</a >": end("a"),
	}
	for put, more := range puts {
		for s, x := range tags {
			for r, y := range tags {
				has(t, s+r, x, y)
				has(t, s+put+r, slices.Concat(list(x), more, list(y))...)
				has(t, put+s+put+r+put, slices.Concat(more, list(x), more, list(y), more)...)
			}
		}
	}
	texts([]string{"<a>", "</a>", "<b c='d'/>", "<![CDATA[x]]>", "\n", "y&lt;z"}, 5, func(s string) {
		for put := range puts {
			stay(t, s, put)
		}
	})
}

// stay fails unless the tokens of s all stay, where that is put between its tags.
func stay(t *testing.T, s, put string) {
	t.Helper()
	want, e := token.Tokens(s)
	got, f := token.Tokens(strings.ReplaceAll(s, "><", ">"+put+"<"))
	var others []api.Token
	for _, x := range got {
		if x.Kind != api.Note && x.Kind != api.PI {
			others = append(others, x)
		}
	}
	if e != api.OK || f != api.OK || !same(others, want) {
		t.Fatalf("%q with %q between tags: %v, %d, not %v, %d", s, put, others, f, want, e)
	}
}
