package adler_test

import (
	"math"
	"strings"
	"testing"

	"broadsheet/adler"
)

// A dice throws numbers that are the same in each run.
type dice uint64

func (d *dice) below(n int) int {
	*d = *d*6364136223846793005 + 1442695040888963407
	return int(*d >> 33 % dice(n))
}

// text is a text of n bytes, of some hap.
func (d *dice) text(n int) string {
	s := make([]byte, n)
	for i := range s {
		s[i] = byte(d.below(256))
	}
	return string(s)
}

// texts are some of many lengths and bytes; of the first bytes of some the first number is 0.
func texts() []string {
	d := dice(1)
	all := []string{"\x00", "\xff", "é\u2028", strings.Repeat("\xff", 256) + "\xf0", strings.Repeat("\xff", 256) + "\xf0\x01a"}
	for n := range 40 {
		all = append(all, d.text(n))
	}
	for _, n := range []int{255, 256, 257, 5551, 5552, 5553, 65520, 65521, 65522, 65535, 65536, 65537} {
		all = append(all, d.text(n), strings.Repeat("\x00", n), strings.Repeat("\xff", n))
	}
	return all
}

// left is what is left of n divided by 65521, from 0 on.
func left(n int) int {
	n %= 65521
	if n < 0 {
		n += 65521
	}
	return n
}

// summed is B1 without steps: how often each byte has come to the numbers in the end, and one division then.
func summed(s string) int {
	first, second := 1, len(s)
	for i := range len(s) {
		first += int(s[i])
		second += int(s[i]) * (len(s) - i)
	}
	return left(second)*65536 + left(first)
}

func TestSum(t *testing.T) { // B1
	ff := strings.Repeat("\xff", 256)
	for _, x := range []struct {
		s    string
		want int
	}{
		{"", 1},
		{"\x00", 0x00010001},
		{"\x00\x00", 0x00020001},
		{"\x01", 0x00020002},
		{"\xff", 0x01000100},
		{"a", 0x00620062},
		{"abc", 0x024D0127},
		{"acb", 0x024E0127},
		{"\u00e9", 0x0231016D}, // of two bytes
		{"\xc3\xa9", 0x0231016D},
		{"Wikipedia", 0x11E60398},
		{"abcdefghijklmnopqrstuvwxyz", 0x90860B20},
		{strings.Repeat("1234567890", 8), 0x97B61069},
		{ff + "\xef", 0x07FFFFF0}, // the first number is 65520, 65521 and 65522
		{ff + "\xf0", 0x08000000},
		{ff + "\xf1", 0x08010001},
		{strings.Repeat("\x00", 65520), 0xFFF00001}, // so is the second
		{strings.Repeat("\x00", 65521), 0x00000001},
		{strings.Repeat("\x00", 65522), 0x00010001},
		{strings.Repeat("\xff", 1<<22), 0x430DBC6E},
	} {
		if got := adler.Sum(x.s); got != x.want {
			t.Errorf("%.30q, %d bytes: %#x, not %#x", x.s, len(x.s), got, x.want)
		}
	}
}

func TestSumOfManyTexts(t *testing.T) { // B1
	for _, s := range texts() {
		if got, want := adler.Sum(s), summed(s); got != want {
			t.Errorf("%.30q, %d bytes: %#x, not %#x", s, len(s), got, want)
		}
	}
}

func TestJoin(t *testing.T) { // B2
	for _, x := range []struct{ x, y, n, want int }{
		{1, 1, 0, 1},
		{0, 0, 0, 0x0000FFF0},             // a + c - 1 is -1
		{0, 0, 1, 0xFFF0FFF0},             // and b + d + n(a - 1), too
		{0, 1, 65520, 0x00010000},         // it is -65520
		{0, 1, 65521, 0x00000000},         // it is -65521
		{0, 1, 65522, 0xFFF00000},         // it is -65522
		{0, 1, math.MaxInt32, 0x7F890000}, // it is -(2^31 - 1)
		{2, 1, 65520, 0xFFF00002},
		{2, 1, 65521, 0x00000002},
		{0x0000FFF0, 1, 0, 0x0000FFF0}, // a + c - 1 is 65520, 65521 and 65522
		{0x0000FFF0, 2, 0, 0x00000000},
		{0x0000FFF0, 3, 0, 0x00000001},
		{0x00010001, 0xFFEF0001, 9, 0xFFF00001}, // so is b + d
		{0x00010001, 0xFFF00001, 9, 0x00000001},
		{0x00010001, 0xFFF10001, 9, 0x00010001},
		{0xFFFFFFFF, 0xFFFFFFFF, 0, 0x001C001B},
		{0xFFFFFFFF, 0xFFFFFFFF, math.MaxInt32, 0x85BE001B},
		{0x00620062, 0x00630063, 1, 0x012600C4}, // "a" and "b"
	} {
		if got := adler.Join(x.x, x.y, x.n); got != x.want {
			t.Errorf("%#x %#x %d: %#x, not %#x", x.x, x.y, x.n, got, x.want)
		}
	}
}

// joined is B2 word by word. Within its bounds nothing outgrows an int.
func joined(x, y, n int) int {
	a, b, c, d := x%65536, x/65536, y%65536, y/65536
	return left(b+d+n*(a-1))*65536 + left(a+c-1)
}

func TestJoinOfManySums(t *testing.T) { // B2: those that no text has, too
	d := dice(2)
	halves := []int{0, 1, 2, 65519, 65520, 65521, 65522, 65534, 65535, d.below(65536), d.below(65536)}
	lengths := []int{0, 1, 2, 65520, 65521, 65522, math.MaxInt32 - 1, math.MaxInt32, d.below(1 << 31), d.below(1 << 31)}
	var sums []int
	for _, a := range halves {
		for _, b := range halves {
			sums = append(sums, b*65536+a)
		}
	}
	for _, x := range sums {
		for _, y := range sums {
			for _, n := range lengths {
				if got, want := adler.Join(x, y, n), joined(x, y, n); got != want {
					t.Fatalf("%#x %#x %d: %#x, not %#x", x, y, n, got, want)
				}
			}
		}
	}
}

func TestJoinBeyondItsBounds(t *testing.T) { // B2: it ends, and does not panic
	numbers := []int{math.MinInt, math.MinInt + 1, -1 << 32, -65536, -1, 0, 1 << 31, 1 << 32, math.MaxInt - 1, math.MaxInt}
	for _, x := range numbers {
		for _, y := range numbers {
			for _, n := range numbers {
				adler.Join(x, y, n)
			}
		}
	}
}

func TestSumOfTwoTexts(t *testing.T) { // B3
	for _, x := range texts() {
		for _, y := range texts() {
			got, want := adler.Join(adler.Sum(x), adler.Sum(y), len(y)), adler.Sum(x+y)
			if got != want {
				t.Fatalf("%.30q and %.30q, %d and %d bytes: %#x, not %#x", x, y, len(x), len(y), got, want)
			}
		}
	}
}

func TestAnotherByte(t *testing.T) { // B3
	for _, s := range texts() {
		sum := adler.Sum(s)
		for at := 0; at < len(s); at += 1 + len(s)/40 { // in a long text not each byte, for it takes long
			for c := 0; c < 256; c += 1 + len(s)/1000 {
				other := s[:at] + string([]byte{byte(c)}) + s[at+1:]
				if (adler.Sum(other) == sum) != (other == s) {
					t.Fatalf("%.30q, %d bytes, byte %d as %#x: %#x and %#x", s, len(s), at, c, sum, adler.Sum(other))
				}
			}
		}
	}
}
