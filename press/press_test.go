package press_test

import (
	"math"
	"slices"
	"strings"
	"testing"

	"broadsheet/api"
)

// set is what stands behind all else, if urn:x, /e and 5 are handed over, and nobody told when it was updated.
const (
	set            = "<id>urn:x</id><updated>1970-01-01T00:00:05Z</updated>" + setBehind
	setBehind      = "<p:edited>1970-01-01T00:00:05Z</p:edited><link rel='edit' href='/e'/>"
	setButUpdated  = "<id>urn:x</id>" + setBehind
	updatedThen    = "<updated>2005-07-31T12:29:29Z</updated>"
	editedThen     = "<p:edited>2005-07-31T12:29:29Z</p:edited>"
	editLinkThere  = "<link rel='edit' href='a'/>"
	mediaLinkThere = "<link href='b' rel='edit-media'/>"
)

// becomes fails unless an entry with those kids is pressed to one with these.
func becomes(t *testing.T, s, want string) {
	t.Helper()
	becomesOf(t, kids(t, s), kids(t, want))
}

func becomesOf(t *testing.T, l, want []api.Node) {
	t.Helper()
	answers(t, entry(l...), "urn:x", "/e", 5, entry(want...), api.OK)
}

func TestExample(t *testing.T) { // the chapter's
	becomes(t, base, base+set)
	n := entry(el(atoms, "author", el(atoms, "name", text("A"))), el(atoms, "title", text("t")))
	answers(t, n, "i", "e", 86400, entry(n.Kids[0], n.Kids[1],
		api.Node{Space: "http://www.w3.org/2005/Atom", Name: "id", Kids: []api.Node{{Kind: 1, Data: "i"}}},
		api.Node{Space: "http://www.w3.org/2005/Atom", Name: "updated", Kids: []api.Node{{Kind: 1, Data: "1970-01-02T00:00:00Z"}}},
		api.Node{Space: "http://www.w3.org/2007/app", Name: "edited", Kids: []api.Node{{Kind: 1, Data: "1970-01-02T00:00:00Z"}}},
		api.Node{Space: "http://www.w3.org/2005/Atom", Name: "link", Attrs: []api.Attr{{Name: "rel", Value: "edit"}, {Name: "href", Value: "e"}}}), api.OK)
}

// noEntries are nodes of which each is none.
func noEntries(t *testing.T) []api.Node {
	t.Helper()
	l := []api.Node{{}, text("x"), comment("c"), instr("p", "q"), {Kind: 4}, {Kind: -1}, entry(), entry(entry(kids(t, base)...)), entry(text("x")), el(atoms, "entry", el(atoms, "id"))}
	for _, s := range []string{
		"<title>t</title>", "<author><name>A</name></author>", "<author/><title/>", base + base, base + "<title/>", "<o:author><name>A</name></o:author><title>t</title>",
		base + "<id/>", base + "<id>a</id>", base + "<id>urn:a</id><id>urn:b</id>", base + "<updated/>", base + updatedThen + updatedThen, base + "<published>x</published>",
		base + "<link/>", base + "<link rel='edit'/>", base + "<link rel='edit' href=''/>", base + "<link rel='edit-media' href='a b'/>", base + "<link rel='edit' href='a' type='x'/>", base + "<link href='a'/><link href='b'/>",
		base + "<category/>", base + "<content type='message/x'/>", base + "<summary type='y'/>", base + "<rights><b/></rights>", base + "<contributor/>",
	} {
		l = append(l, entry(kids(t, s)...))
	}
	for _, x := range []api.Node{
		{Kind: 1, Space: atoms, Name: "entry"}, {Kind: 2, Space: atoms, Name: "entry"}, {Space: atoms, Name: "feed"}, {Space: atoms, Name: "Entry"}, {Space: apps, Name: "entry"}, {Name: "entry"}, {Space: atoms},
	} {
		x.Kids = kids(t, base)
		l = append(l, x)
	}
	return l
}

func TestWhatIsNoEntry(t *testing.T) { // P1: ErrEntry, whatever else is handed over
	for _, n := range noEntries(t) {
		refuses(t, n, "urn:x", "/e", 5, api.ErrEntry)
		refuses(t, n, "", "\xff", 5, api.ErrEntry)
		refuses(t, n, "urn:x", "/e", first-1, api.ErrEntry)
		refuses(t, n, "", "", math.MaxInt, api.ErrEntry)
	}
}

func TestWhatAnEntryIsItself(t *testing.T) { // P1: but for its kids it is as it was
	n := entry(kids(t, base+"<id>urn:old</id>")...)
	want := entry(kids(t, base+set)...)
	for _, l := range [][]api.Attr{nil, {{Name: "a", Value: "1"}}, {{Space: another, Name: "rel", Value: "edit"}, {Name: "href", Value: "x"}, {Name: "href"}, {}}, {{Space: "http://www.w3.org/XML/1998/namespace", Name: "lang", Value: "en"}}} {
		for _, data := range []string{"", "x", "\xff"} {
			n.Attrs, n.Data = l, data
			want.Attrs, want.Data = l, data
			answers(t, n, "urn:x", "/e", 5, want, api.OK)
		}
	}
}

// others are kids of which an entry may have each, and all, and which are the client's.
func others() []string {
	return []string{
		"<author><name>B</name><uri>/b</uri></author>", "<contributor><name>C</name><email>a@b</email></contributor>", "<category term='a'/>", "<category term='a' o:rel='edit'/>",
		"<published>2005-07-31T12:29:29Z</published>", "<summary type='html'>&lt;b></summary>", "<rights> r </rights>", "<content type='xhtml'> <x:div>d</x:div> </content>",
		"<source><id>urn:s</id><p:edited/><link rel='edit' href='s'/></source>", "<other id='1'/>", "<p:control><p:draft>yes</p:draft></p:control>", "<p:id/>", "<p:link rel='edit' href='a'/>", "<p:updated>x</p:updated>", "<p:Edited/>",
		"<o:id>x</o:id>", "<o:edited/>", "<o:link rel='edit' href='a'/>", "<o:updated/>", "<x:id/>", "<x:div/>", "<edited/>", "<edited>2005-07-31T12:29:29Z</edited>", "<ID/>", "<Id>urn:a</Id>", "<ids/>", "<links rel='edit'/>", "<Link rel='edit'/>",
		"<link href='a'/>", "<link rel='alternate' href='a' hreflang='en'/>", "<!--id-->", "<?id link?>", "<?edited?>", "<b xmlns=''/>", "<id xmlns=''>x</id>", "<link xmlns='' rel='edit'/>", "<edited xmlns=''/>",
	}
}

// rels are attributes of a link that is for something else.
func rels() []string {
	l := []string{"", "o:rel='edit'", "o:rel='edit-media'", "rel='self' o:rel='edit'", "o:rel='edit' rel='self'", "Rel='edit'", "REL='edit-media'", "rels='edit'", "type='edit/edit'", "hreflang='edit'", "title='edit'", "xml:rel='edit'"}
	for _, s := range []string{"", " ", "alternate", "self", "related", "via", "enclosure", "Edit", "EDIT", "ediT", "edit ", " edit", " edit ", "\tedit", "edit&#10;", "Edit-media", "edit-Media", "EDIT-MEDIA", "edit-media ", " edit-media", "edit media", "edit_media", "edit-", "edit-medi", "edit-medias", "media", "-media", "edi", "dit", "edits", "edit,edit", "edit edit", "edit edit-media", "edit-edit", "edit/", "\"edit\"", "édit", "http://www.iana.org/assignments/relation/edit", "urn:edit"} {
		l = append(l, "rel='"+s+"'")
	}
	return l
}

// servers are kids that are the server's.
func servers() []string {
	l := []string{"<id>urn:old</id>", "<id> urn:old\n</id>", "<id a='1'>urn:x</id>", "<id><!--c-->urn:old</id>", "<p:edited/>", editedThen, "<p:edited rel='x'>x<b/></p:edited>", "<p:edited>1970-01-01T00:00:05Z</p:edited><p:edited/>"}
	for _, rel := range []string{"edit", "edit-media"} {
		for _, s := range []string{"", " o:rel='self'", " type='image/png'", " hreflang='en' title='x'", " Rel='self'"} {
			l = append(l, "<link href='a' rel='"+rel+"'"+s+"/>", "<link"+s+" rel='"+rel+"' href='/e'>x<b/></link>")
		}
	}
	return l
}

func TestWhatIsTheClients(t *testing.T) { // P1: it is left, in its order, ahead of what is set
	for _, s := range others() {
		becomes(t, base+s, base+s+set)
		becomes(t, s+base, s+base+set)
		becomes(t, "<title/>"+s+"<author><name>A</name></author>", "<title/>"+s+"<author><name>A</name></author>"+set)
		becomes(t, base+s+updatedThen, base+s+updatedThen+setButUpdated)
		for _, x := range servers() {
			becomes(t, base+x+s, base+s+set)
			becomes(t, x+base+s+editedThen, base+s+set)
			becomes(t, s+editLinkThere+base+x, s+base+set)
		}
	}
	all := strings.Join(others(), "")
	becomes(t, all+base, all+base+set)
	becomes(t, "<id>urn:old</id>"+all+editedThen+base+mediaLinkThere+updatedThen+editLinkThere, all+base+updatedThen+setButUpdated)
	back := others()
	slices.Reverse(back)
	all = strings.Join(back, editLinkThere+editedThen)
	becomes(t, all+base, strings.Join(back, "")+base+set)
}

func TestLinks(t *testing.T) { // P1: what each is for
	for _, rel := range rels() {
		s := "<link href='a' " + rel + "/>"
		becomes(t, base+s, base+s+set)
		s = "<link " + rel + " href='/e'>x</link>"
		becomes(t, editLinkThere+s+mediaLinkThere+base+editLinkThere, s+base+set)
	}
	rel := func(space, value string) api.Attr { return api.Attr{Space: space, Name: "rel", Value: value} }
	href := api.Attr{Name: "href", Value: "a"}
	for _, x := range []struct {
		isServers bool
		l         []api.Attr
	}{ // of those without a space the first one counts
		{true, []api.Attr{rel("", "edit"), rel("", "self"), href}}, {true, []api.Attr{href, rel("", "edit-media"), rel("", "edit")}}, {true, []api.Attr{rel("", "edit"), href, rel("", "")}},
		{false, []api.Attr{rel("", "self"), rel("", "edit"), href}}, {false, []api.Attr{rel("", ""), href, rel("", "edit")}}, {false, []api.Attr{rel("", "Edit"), rel("", "edit-media"), rel("", "edit"), href}},
		{true, []api.Attr{rel(another, "self"), rel("", "edit"), href}}, {true, []api.Attr{rel(atoms, "self"), rel(apps, ""), rel("", "edit-media"), href}}, {true, []api.Attr{href, rel("", "edit"), rel(another, "self")}},
		{false, []api.Attr{rel(another, "edit"), rel("", "self"), href}}, {false, []api.Attr{rel(atoms, "edit"), href}}, {false, []api.Attr{rel(apps, "edit"), href}}, {false, []api.Attr{rel(" ", "edit"), href}}, {false, []api.Attr{rel("\xff", "edit"), href}}, {false, []api.Attr{rel("", "edit\x00"), href}}, {false, []api.Attr{rel("", "\xffedit"), href}},
	} {
		n := api.Node{Space: atoms, Name: "link", Attrs: x.l}
		want := []api.Node{n}
		if x.isServers {
			want = nil
		}
		becomesOf(t, slices.Concat(kids(t, base), []api.Node{n}), slices.Concat(kids(t, base), want, kids(t, set)))
	}
}

func TestUpdated(t *testing.T) { // P1: one that is there stays where it is, and none is set; else there is one behind the id
	for _, s := range []string{updatedThen, "<updated>1970-01-01T00:00:05Z</updated>", "<updated> 2005-07-31T12:29:29.25+01:00\n</updated>", "<updated a='1'><!--c-->9999-12-31T23:59:59Z</updated>", "<updated rel='edit'>0000-01-01T00:00:00Z</updated>"} {
		becomes(t, base+s, base+s+setButUpdated)
		becomes(t, s+base, s+base+setButUpdated)
		becomes(t, "<id>urn:old</id>"+s+editedThen+base+editLinkThere, s+base+setButUpdated)
	}
	for _, s := range []string{"<p:updated/>", "<o:updated>2005-07-31T12:29:29Z</o:updated>", "<x:updated/>", "<updated xmlns=''>x</updated>", "<Updated/>", "<update/>", "<updateds/>", "<published>2005-07-31T12:29:29Z</published>", "<b>" + updatedThen + "</b>", "<source>" + updatedThen + "</source>", "<!--updated-->", "<?updated?>", "updated", editedThen + "<edited/>" + "<b/>"} {
		want := strings.Replace(s, editedThen, "", 1)
		becomes(t, s+base, want+base+set)
	}
	for kind := 1; kind < 6; kind++ {
		n := api.Node{Kind: kind, Space: atoms, Name: "updated", Data: "x", Kids: []api.Node{text("2005-07-31T12:29:29Z")}}
		becomesOf(t, slices.Concat([]api.Node{n}, kids(t, base)), slices.Concat([]api.Node{n}, kids(t, base+set)))
	}
}

func TestWhatIsNoElement(t *testing.T) { // P1: it is never the server's, whatever its name
	for _, kind := range []int{-1, 1, 2, 3, 4, 5} {
		for _, n := range []api.Node{el(atoms, "id", text("x")), el(apps, "edited"), link("rel", "edit", "href", "a"), link("rel", "edit-media")} {
			n.Kind, n.Data = kind, "d"
			becomesOf(t, slices.Concat([]api.Node{n}, kids(t, base+"<id>urn:old</id>")), slices.Concat([]api.Node{n}, kids(t, base+set)))
			strips(t, entry(n, el(atoms, "id")), entry(n))
		}
	}
}

// texts are some that pass layer 5's Check, and some that do not.
func texts() (good, bad []string) {
	good = []string{" ", "x", "urn:x", "/e", "a b", "\t\n\r", "<&>\"']]>", "é", "\u0085", "\uD7FF", "\uE000", "\uFFFD", "\U00010000", "\U0010FFFF", "%", "::", "-", strings.Repeat("x", 200000)}
	bad = []string{"\x00", "\x01", "\x08", "\x0B", "\x0C", "\x0E", "\x1F", "\x80", "\xff", "\xc3", "\xc0\x80", "\xed\xa0\x80", "\xed\xbf\xbf", "\uFFFE", "\uFFFF", "\xf4\x90\x80\x80", "\xe2\x82", "x\x00", "urn:x\xff", "\xffurn:x", "/e\x00", "a\x1Fb", strings.Repeat("x", 200000) + "\x00"}
	return good, bad
}

func TestIdAndEdit(t *testing.T) { // P1: texts that pass layer 5's Check, the first one of them not empty
	n := with(t)
	good, bad := texts()
	for b := range 256 {
		if s := string([]byte{byte(b)}); b == 9 || b == 10 || b == 13 || 0x20 <= b && b < 0x80 {
			good = append(good, s)
		} else {
			bad = append(bad, s)
		}
	}
	for _, s := range good {
		want := slices.Concat(n.Kids, []api.Node{el(atoms, "id", text(s))}, kids(t, "<updated>1970-01-01T00:00:05Z</updated><p:edited>1970-01-01T00:00:05Z</p:edited>"))
		answers(t, n, s, "/e", 5, entry(append(slices.Clone(want), link("rel", "edit", "href", "/e"))...), api.OK)
		answers(t, n, s, "", 5, entry(append(slices.Clone(want), link("rel", "edit", "href", ""))...), api.OK)
		answers(t, n, s, s, 5, entry(append(slices.Clone(want), link("rel", "edit", "href", s))...), api.OK)
		refuses(t, n, "", s, 5, api.ErrArg)
	}
	for _, s := range bad {
		refuses(t, n, s, "/e", 5, api.ErrArg)
		refuses(t, n, "urn:x", s, 5, api.ErrArg)
		refuses(t, n, s, "", 5, api.ErrArg)
		refuses(t, n, "", s, 5, api.ErrArg)
		refuses(t, n, s, s, 5, api.ErrArg)
	}
	refuses(t, n, "", "", 5, api.ErrArg)
	refuses(t, n, "", "/e", 5, api.ErrArg)
}

func TestSeconds(t *testing.T) { // P1: at the edges of what layer 11 prints, and beyond
	n, then := with(t), entry(kids(t, base+updatedThen)...)
	for at, s := range map[int]string{
		0: "1970-01-01T00:00:00Z", 1: "1970-01-01T00:00:01Z", -1: "1969-12-31T23:59:59Z", 5: "1970-01-01T00:00:05Z", 951782400: "2000-02-29T00:00:00Z", 1 << 36: "4147-08-20T07:32:16Z",
		first: "0000-01-01T00:00:00Z", first + 1: "0000-01-01T00:00:01Z", last: "9999-12-31T23:59:59Z", last - 1: "9999-12-31T23:59:58Z",
	} {
		behind := "<p:edited>" + s + "</p:edited><link rel='edit' href='/e'/>"
		answers(t, n, "urn:x", "/e", at, entry(kids(t, base+"<id>urn:x</id><updated>"+s+"</updated>"+behind)...), api.OK)
		answers(t, then, "urn:x", "/e", at, entry(kids(t, base+updatedThen+"<id>urn:x</id>"+behind)...), api.OK)
	}
	for _, at := range []int{first - 1, last + 1, first - 86400, last + 86400, -1 << 40, 1 << 40, math.MinInt, math.MinInt + 1, math.MaxInt - 1, math.MaxInt, -1 << 62} {
		refuses(t, n, "urn:x", "/e", at, api.ErrDate)
		refuses(t, then, "urn:x", "/e", at, api.ErrDate)
		refuses(t, n, "", "\xff", at, api.ErrDate)
	}
	for at := first; at <= last; at += 123456789 {
		agrees(t, n, "urn:x", "/e", at)
	}
}

func TestWhichErrorIsTold(t *testing.T) { // P1: ErrEntry, then layer 11's, then ErrArg
	for _, isEntry := range []bool{true, false} {
		for _, at := range []int{5, first - 1, last + 1, math.MinInt} {
			for _, id := range []string{"urn:x", "", "\x00", "\xff"} {
				for _, edit := range []string{"/e", "", "\x00", "\xff"} {
					n, want := with(t), api.OK
					switch {
					case !isEntry:
						n, want = entry(), api.ErrEntry
					case at != 5:
						want = api.ErrDate
					case id != "urn:x" || edit == "\x00" || edit == "\xff":
						want = api.ErrArg
					}
					if _, e := agrees(t, n, id, edit, at); e != want {
						t.Errorf("%t, %d, %q, %q: %d, not %d", isEntry, at, id, edit, e, want)
					}
				}
			}
		}
	}
}

func TestEachTwoKids(t *testing.T) { // P1: of many kids, at many places
	pool := kids(t, strings.Join(slices.Concat(others(), servers(), []string{updatedThen, "<link href='c' rel='self'/>", "x"}), ""))
	must := kids(t, base)
	good := 0
	for _, a := range pool {
		for _, b := range pool {
			for _, l := range [][]api.Node{{a, b, must[0], must[1]}, {must[1], a, must[0], b}, {must[0], must[1], a, b}, {a, text("y"), must[0], must[1], text(""), b, text("z")}} {
				if _, e := agrees(t, entry(l...), "urn:x", "/e", 5); e == api.OK {
					good++
				}
				strips(t, entry(l...), entry(made(l)...))
			}
		}
	}
	if good < 10000 {
		t.Errorf("no more than %d are entries", good)
	}
}
