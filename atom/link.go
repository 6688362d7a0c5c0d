package atom

import "broadsheet/api"

// alternate is what a link is for that does not say it.
const alternate = "alternate"

// A version is what tells the links for alternate from one another.
type version struct {
	kind, language       string // made small
	hasKind, hasLanguage bool
}

// isLink tells whether n is a link.
func isLink(n api.Node) bool {
	href, has := attribute(n, "href")
	kind, isTyped := attribute(n, "type")
	return has && isReference(href) && (!isTyped || isMedia(kind))
}

// purpose is what a link is for.
func purpose(n api.Node) string {
	if rel, has := attribute(n, "rel"); has {
		return rel
	}
	return alternate
}

// areUnlike tells whether no two kids are links for one version.
func areUnlike(kids []api.Node) bool {
	seen := map[version]struct{}{}
	for _, kid := range kids {
		if !isElement(kid, atomSpace, "link") || purpose(kid) != alternate {
			continue
		}
		v := versionOf(kid)
		if _, twice := seen[v]; twice {
			return false
		}
		seen[v] = struct{}{}
	}
	return true
}

func versionOf(link api.Node) version {
	kind, hasKind := attribute(link, "type")
	language, hasLanguage := attribute(link, "hreflang")
	return version{small(kind), small(language), hasKind, hasLanguage}
}

// small is s with its letters A to Z made small, and all else as it is, be it UTF-8 or not.
func small(s string) string {
	b := []byte(s)
	for i, c := range b {
		if 'A' <= c && c <= 'Z' {
			b[i] = c - 'A' + 'a'
		}
	}
	return string(b)
}
