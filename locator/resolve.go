package locator

import (
	"strings"

	"broadsheet/api"
)

// Dots is a path without the pieces that are one dot or two: two take the piece ahead of them away.
func Dots(s string) string {
	var pieces []string // but for the first one, each begins with the one / that it has
	for s != "" {
		switch {
		case strings.HasPrefix(s, "../"):
			s = s[len("../"):]
		case strings.HasPrefix(s, "./"):
			s = s[len("./"):]
		case strings.HasPrefix(s, "/./"):
			s = s[len("/."):]
		case s == "/.":
			s = "/"
		case strings.HasPrefix(s, "/../"):
			s = s[len("/.."):]
			pieces = popped(pieces)
		case s == "/..":
			s = "/"
			pieces = popped(pieces)
		case s == "." || s == "..":
			s = ""
		default:
			n := 1 + upToSlash(s[1:])
			pieces = append(pieces, s[:n])
			s = s[n:]
		}
	}
	return strings.Join(pieces, "")
}

// popped is a stack without what lies on top of it, if anything does.
func popped(stack []string) []string {
	return stack[:max(len(stack)-1, 0)]
}

// Resolve is what r refers to where base is what it stands in.
func Resolve(base, r api.URI) api.URI {
	if r.HasScheme {
		return withoutDots(r)
	}
	r.Scheme, r.HasScheme = base.Scheme, base.HasScheme
	if r.HasHost {
		return withoutDots(r)
	}
	r.Host, r.HasHost = base.Host, base.HasHost
	if r.Path != "" {
		r.Path = placed(base, r.Path)
		return withoutDots(r)
	}
	r.Path = base.Path // with its dots, if it has any
	if !r.HasQuery {
		r.Query, r.HasQuery = base.Query, base.HasQuery
	}
	return r
}

func withoutDots(u api.URI) api.URI {
	u.Path = Dots(u.Path)
	return u
}

// placed is a path, which is not empty, put where it stands by base: in the place of what is behind the last / there.
func placed(base api.URI, path string) string {
	if strings.HasPrefix(path, "/") {
		return path
	}
	if base.HasHost && base.Path == "" {
		return "/" + path
	}
	return base.Path[:strings.LastIndex(base.Path, "/")+1] + path
}
