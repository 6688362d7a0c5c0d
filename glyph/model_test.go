package glyph_test

import (
	"math/bits"
	"strings"
)

// A run is two numbers, and all between them.
type run struct{ from, to int }

// chars, starts and parts are the runs of E1: no two of them meet, so just outside of each is a number that is none.
func chars() []run {
	return []run{{9, 10}, {13, 13}, {0x20, 0xD7FF}, {0xE000, 0xFFFD}, {0x10000, 0x10FFFF}}
}

func starts() []run {
	return []run{{0x3A, 0x3A}, {0x41, 0x5A}, {0x5F, 0x5F}, {0x61, 0x7A}, {0xC0, 0xD6}, {0xD8, 0xF6}, {0xF8, 0x2FF},
		{0x370, 0x37D}, {0x37F, 0x1FFF}, {0x200C, 0x200D}, {0x2070, 0x218F}, {0x2C00, 0x2FEF}, {0x3001, 0xD7FF},
		{0xF900, 0xFDCF}, {0xFDF0, 0xFFFD}, {0x10000, 0xEFFFF}}
}

func parts() []run {
	return []run{{0x2D, 0x2E}, {0x30, 0x3A}, {0x41, 0x5A}, {0x5F, 0x5F}, {0x61, 0x7A}, {0xB7, 0xB7}, {0xC0, 0xD6},
		{0xD8, 0xF6}, {0xF8, 0x37D}, {0x37F, 0x1FFF}, {0x200C, 0x200D}, {0x203F, 0x2040}, {0x2070, 0x218F},
		{0x2C00, 0x2FEF}, {0x3001, 0xD7FF}, {0xF900, 0xFDCF}, {0xFDF0, 0xFFFD}, {0x10000, 0xEFFFF}}
}

func in(c int, l []run) bool {
	for _, r := range l {
		if r.from <= c && c <= r.to {
			return true
		}
	}
	return false
}

// encoded is c in n bytes, from 1 to 6, as UTF-8 lays them, though there be fewer that do.
func encoded(c, n int) string {
	b := make([]byte, n)
	for i := n - 1; i > 0; i-- {
		b[i] = byte(0x80 | c&0x3F)
		c >>= 6
	}
	b[0] = byte(c)
	if n > 1 {
		b[0] |= byte(0xFF) << (8 - n)
	}
	return string(b)
}

// fits tells whether n bytes have room for c.
func fits(c, n int) bool {
	if n == 1 {
		return c < 0x80
	}
	return bits.Len(uint(c)) <= 5*n+1
}

// fewest is the least number of bytes that have room for c.
func fewest(c int) int {
	n := 1
	for !fits(c, n) {
		n++
	}
	return n
}

// first is the code point at the head of s and its number of bytes, or no bytes, if there is none.
func first(s string) (c, n int) {
	for n = 1; n <= 4 && n <= len(s); n++ {
		c = int(s[0])
		if n > 1 {
			c &= 0x7F >> n
		}
		for i := 1; i < n; i++ {
			c = c<<6 | int(s[i])&0x3F
		}
		if c <= 0x10FFFF && (c < 0xD800 || c > 0xDFFF) && encoded(c, fewest(c)) == s[:n] {
			return c, n
		}
	}
	return 0, 0
}

// isText is E2 word by word.
func isText(s string) bool {
	for s != "" {
		c, n := first(s)
		if n == 0 || !in(c, chars()) {
			return false
		}
		s = s[n:]
	}
	return true
}

// lines is E3 word by word.
func lines(s string) string {
	var b []byte
	for i := 0; i < len(s); i++ {
		if s[i] != 13 {
			b = append(b, s[i])
			continue
		}
		b = append(b, 10)
		if i+1 < len(s) && s[i+1] == 10 {
			i++
		}
	}
	return string(b)
}

// name is E4 word by word; it is empty, if there is none.
func name(s string) string {
	c, at := first(s)
	if at == 0 || !in(c, starts()) {
		return ""
	}
	for {
		c, n := first(s[at:])
		if n == 0 || !in(c, parts()) {
			return s[:at]
		}
		at += n
	}
}

// isPlain is E5 word by word.
func isPlain(s string) bool {
	return s != "" && name(s) == s && strings.IndexByte(s, ':') < 0
}

// texts calls f with every text of up to n of the pieces, one behind the other.
func texts(pieces []string, n int, f func(string)) {
	told("", pieces, n, f)
}

func told(s string, pieces []string, n int, f func(string)) {
	f(s)
	if n == 0 {
		return
	}
	for _, x := range pieces {
		told(s+x, pieces, n-1, f)
	}
}

// pieces are what names are of, what may only go on with them, what may not, and what is no UTF-8.
func pieces() []string {
	return []string{"a", "Z", "_", ":", "-", ".", "0", "é", "\u00B7", "\u0300", "\uFFFD", "\U0001F600",
		" ", "\n", "\r", "\x00", "×", "\u2028", "\uFFFE", "\U000F0000",
		"\x80", "\xBD", "\xC3", "\xEF\xBF", "\xED\xA0\x80", "\xC0\x80", "\xF4\x90\x80\x80", "\xFF"}
}
