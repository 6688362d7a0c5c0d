package locator_test

import (
	"regexp"
	"strings"
	"testing"
	"unicode/utf8"

	"broadsheet/api"
	"broadsheet/locator"
)

// none stands for a part that is not there.
const none = "(none)"

// of is the reference of these parts, of which each but the path may be none.
func of(scheme, host, path, query, frag string) api.URI {
	u := api.URI{Path: path}
	u.Scheme, u.HasScheme = part(scheme)
	u.Host, u.HasHost = part(host)
	u.Query, u.HasQuery = part(query)
	u.Frag, u.HasFrag = part(frag)
	return u
}

func part(s string) (string, bool) {
	if s == none {
		return "", false
	}
	return s, true
}

// What L1 takes a text apart by, and of what each part may be.
var (
	parts    = regexp.MustCompile(`(?s)^(?:([^:/?#]*):)?(?://([^/?#]*))?([^?#]*)(?:\?([^#]*))?(?:#(.*))?$`)
	isScheme = regexp.MustCompile(`^[A-Za-z][A-Za-z0-9+.-]*$`)
	isHost   = regexp.MustCompile(signs(`\[\]`))
	isPath   = regexp.MustCompile(signs(`/`))
	isMore   = regexp.MustCompile(signs(`/?`))
)

func signs(more string) string {
	return `^(?:[A-Za-z0-9\-._~!$&'()*+,;=:@[:^ascii:]` + more + `]|%[0-9A-Fa-f][0-9A-Fa-f])*$`
}

// isText is layer 5's Check.
func isText(s string) bool {
	for _, c := range s {
		if c < 0x20 && c != 9 && c != 10 && c != 13 || c == 0xFFFE || c == 0xFFFF {
			return false
		}
	}
	return utf8.ValidString(s)
}

// parsed is L1 by regular expressions.
func parsed(s string) (api.URI, api.Errno) {
	at := parts.FindStringSubmatchIndex(s)
	group := func(n int) string {
		if at[2*n] < 0 {
			return none
		}
		return s[at[2*n]:at[2*n+1]]
	}
	u := of(group(1), group(2), group(3), group(4), group(5))
	if !isText(s) || u.HasScheme && !isScheme.MatchString(u.Scheme) || !isHost.MatchString(u.Host) ||
		!isPath.MatchString(u.Path) || !isMore.MatchString(u.Query) || !isMore.MatchString(u.Frag) {
		return api.URI{}, api.ErrIRI
	}
	return u, api.OK
}

// dots is L3 word by word.
func dots(s string) string {
	far := ""
	back := func() { far = far[:max(strings.LastIndex(far, "/"), 0)] }
	for s != "" {
		if strings.HasPrefix(s, "../") {
			s = s[3:]
		} else if strings.HasPrefix(s, "./") {
			s = s[2:]
		} else if strings.HasPrefix(s, "/./") || s == "/." {
			s = "/" + s[min(3, len(s)):]
		} else if strings.HasPrefix(s, "/../") || s == "/.." {
			s = "/" + s[min(4, len(s)):]
			back()
		} else if s == "." || s == ".." {
			s = ""
		} else {
			far, s = far+s[:1], s[1:]
			for s != "" && s[0] != '/' {
				far, s = far+s[:1], s[1:]
			}
		}
	}
	return far
}

// resolved is L4 word by word.
func resolved(base, r api.URI) api.URI {
	u := api.URI{Frag: r.Frag, HasFrag: r.HasFrag}
	scheme := func(x api.URI) { u.Scheme, u.HasScheme = x.Scheme, x.HasScheme }
	host := func(x api.URI) { u.Host, u.HasHost = x.Host, x.HasHost }
	query := func(x api.URI) { u.Query, u.HasQuery = x.Query, x.HasQuery }
	switch last := strings.LastIndex(base.Path, "/"); {
	case r.HasScheme:
		scheme(r)
		host(r)
		query(r)
		u.Path = dots(r.Path)
	case r.HasHost:
		scheme(base)
		host(r)
		query(r)
		u.Path = dots(r.Path)
	case r.Path == "" && r.HasQuery:
		scheme(base)
		host(base)
		query(r)
		u.Path = base.Path
	case r.Path == "":
		scheme(base)
		host(base)
		query(base)
		u.Path = base.Path
	default:
		scheme(base)
		host(base)
		query(r)
		if r.Path[0] == '/' {
			u.Path = dots(r.Path)
		} else if base.HasHost && base.Path == "" {
			u.Path = dots("/" + r.Path)
		} else if last < 0 {
			u.Path = dots(r.Path)
		} else {
			u.Path = dots(base.Path[:last] + "/" + r.Path)
		}
	}
	return u
}

// texts calls f with every text of up to n of the pieces, one behind the other.
func texts(pieces []string, n int, f func(string)) {
	told("", pieces, n, f)
}

func told(s string, pieces []string, n int, f func(string)) {
	f(s)
	if n == 0 {
		return
	}
	for _, x := range pieces {
		told(s+x, pieces, n-1, f)
	}
}

// parses fails unless s is read as want, and told again as it was.
func parses(t *testing.T, s string, want api.URI) {
	t.Helper()
	got, e := locator.Parse(s)
	if got != want || e != api.OK {
		t.Errorf("Parse %q: %+v, %d, not %+v", s, got, e, want)
	}
	if again := locator.Print(want); again != s {
		t.Errorf("Print %+v: %q, not %q", want, again, s)
	}
}

// refuses fails unless each of l is no reference: and the empty one is told beside the error.
func refuses(t *testing.T, l ...string) {
	t.Helper()
	for _, s := range l {
		if got, e := locator.Parse(s); got != (api.URI{}) || e != api.ErrIRI {
			t.Errorf("Parse %q: %+v, %d", s, got, e)
		}
	}
}

// agrees fails unless s is read as the model reads it.
func agrees(t *testing.T, s string) {
	t.Helper()
	want, fault := parsed(s)
	if got, e := locator.Parse(s); got != want || e != fault {
		t.Fatalf("Parse %q: %+v, %d, not %+v, %d", s, got, e, want, fault)
	}
}
