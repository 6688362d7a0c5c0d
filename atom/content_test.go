package atom_test

import "testing"

func TestContentElsewhere(t *testing.T) { // O2: with src: a reference, no kids, and a media type, if there is a type
	for _, s := range []string{"src='a'", "src='http://a/b?c#d'", "src='#'", "src='a' type='image/png'", "type='Text/HTML;a=\"b\"' src='?'", "src='a' type='text/plain'", "src='a' type='multipart/mixed'", "src='a' type='Message/x'", "src='a' o:type='text'", "o:src='' src='a'", "src='a' href='' a='1'", "src='a' type='application/xhtml+xml'", "o:type='x' Type='y' href='%' o:src='%' src='a' xml:src=''"} {
		fits(t, "<content "+s+"/>", "<content "+s+"></content>")
		for _, x := range []string{"x", " ", "<b/>", "<!--c-->", "<?p?>", "<x:div/>", "<o:b/>", "x<b/>"} {
			refuses(t, "<content "+s+">"+x+"</content>")
		}
	}
	for _, s := range []string{"src=''", "src=' '", "src=' a'", "src='a '", "src='a b'", "src='%'", "src=':'", "o:src='a' src=''", "src='' type='image/png'", "src='a' type='text'", "src='a' type='html'", "src='a' type='xhtml'", "src='a' type=''", "src='a' type=' '", "src='a' type='x'", "src='a' type='image/'", "src='a' type='*/png'", "src='a' type='a/b;'", "src='a' type='Text'"} {
		refuses(t, "<content "+s+"/>", "<content "+s+">x</content>", "<content "+s+"><x:div/></content>")
	}
}

func TestContentHere(t *testing.T) { // O2: without src: a text construct, or anything of a media type that is of one part
	anything := []string{"", "x", " ", "<b/>", "x<b/>y", "<o:b/><x:div/><x:div/>", "<!--c-->", "<?p q?>", "<entry/>", "PHN2Zy8+"}
	for _, s := range []string{"image/png", "application/xml", "Text/HTML", " text/plain ; a=b\t", "application/atom+xml;type=entry", "text/*", "*/*", "x/multipart", "x/message", "multiparts/x", "mess/age", "messages/x", "x/x;multipart=message"} {
		bodies{good: anything}.hold(t, "content", " type='"+s+"'")
		bodies{good: anything}.hold(t, "content", " o:src='a' Src='' href='a' o:type='' type='"+s+"'")
	}
	for _, s := range []string{"", " ", "y", "Text", "HTML", "Xhtml", "text ", " xhtml", "html;a=b", "text/", "/html", "text/html;", "*/html", "a/b, c/d", "multipart/mixed", "Multipart/Mixed", "MULTIPART/x;a=b", " multipart/x", "multipart/*", "message/rfc822", "MESSAGE/external-body", "Message/x ", "message/*"} {
		bodies{bad: anything}.hold(t, "content", " type='"+s+"'")
		bodies{bad: anything}.hold(t, "content", " o:type='text' type='"+s+"'")
	}
}
