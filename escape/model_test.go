package escape_test

import (
	"math/big"
	"regexp"
	"strings"
)

var (
	decimals = regexp.MustCompile(`^#[0-9]+$`)
	hexes    = regexp.MustCompile(`^#x[0-9A-Fa-f]+$`)
)

// isChar is E1 word by word.
func isChar(n int64) bool {
	return n == 9 || n == 10 || n == 13 || n >= 0x20 && n <= 0xD7FF || n >= 0xE000 && n <= 0xFFFD || n >= 0x10000 && n <= 0x10FFFF
}

// utf8 is a code point as UTF-8 lays it.
func utf8(n int64) string {
	tail := func(by uint) byte { return byte(0x80 | n>>by&0x3F) }
	switch {
	case n < 0x80:
		return string([]byte{byte(n)})
	case n < 0x800:
		return string([]byte{byte(0xC0 | n>>6), tail(0)})
	case n < 0x10000:
		return string([]byte{byte(0xE0 | n>>12), tail(6), tail(0)})
	}
	return string([]byte{byte(0xF0 | n>>18), tail(12), tail(6), tail(0)})
}

// reference is what is meant by what stands between & and ;, and whether that is a reference, word by word.
func reference(s string) (string, bool) {
	switch s {
	case "lt":
		return "<", true
	case "gt":
		return ">", true
	case "amp":
		return "&", true
	case "quot":
		return `"`, true
	case "apos":
		return "'", true
	}
	n := new(big.Int)
	if decimals.MatchString(s) {
		n.SetString(s[1:], 10)
	} else if hexes.MatchString(s) {
		n.SetString(s[2:], 16)
	}
	if !n.IsInt64() || !isChar(n.Int64()) {
		return "", false
	}
	return utf8(n.Int64()), true
}

// expanded is F1 word by word, and, if blanks is true, F2.
func expanded(s string, blanks bool) (string, bool) {
	var told []string
	for i := 0; i < len(s); i++ {
		if s[i] != '&' {
			x := s[i : i+1]
			if blanks && strings.Contains("\x09\x0a\x0d", x) {
				x = "\x20"
			}
			told = append(told, x)
			continue
		}
		n := strings.IndexByte(s[i:], ';')
		if n < 0 {
			return "", false
		}
		x, is := reference(s[i+1 : i+n])
		if !is {
			return "", false
		}
		told = append(told, x)
		i += n
	}
	return strings.Join(told, ""), true
}

// texts calls f with every text of up to n of the pieces, one behind the other.
func texts(pieces []string, n int, f func(string)) {
	told("", pieces, n, f)
}

func told(s string, pieces []string, n int, f func(string)) {
	f(s)
	if n == 0 {
		return
	}
	for _, x := range pieces {
		told(s+x, pieces, n-1, f)
	}
}
