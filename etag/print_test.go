package etag_test

import (
	"strings"
	"testing"

	"broadsheet/api"
)

// printsBoth fails unless a strong tag of that Value is told so, and a weak one with W/ ahead.
func printsBoth(t *testing.T, value, want string) {
	t.Helper()
	prints(t, strong(value), want, api.OK)
	prints(t, weak(value), "W/"+want, api.OK)
}

// printsNone fails unless no tag of these Values is told.
func printsNone(t *testing.T, l ...string) {
	t.Helper()
	for _, value := range l {
		prints(t, strong(value), "", api.ErrETag)
		prints(t, weak(value), "", api.ErrETag)
	}
}

func TestPrint(t *testing.T) { // Q2: weak and strong
	printsBoth(t, "a", `"a"`)
	printsBoth(t, "1-1", `"1-1"`)
	printsBoth(t, "", `""`)
	printsBoth(t, "*", `"*"`)
	printsBoth(t, "a,b", `"a,b"`)
	printsBoth(t, "W/", `"W/"`)
	printsBoth(t, `\`, `"\"`)
	printsBoth(t, "é\xff", "\"é\xff\"")
	prints(t, api.Tag{}, `""`, api.OK)
	prints(t, api.Tag{Weak: true}, `W/""`, api.OK)
}

func TestPrintOfNoText(t *testing.T) { // Q2: wherever the byte stands
	printsNone(t, `"`, `""`, `"a"`, `W/"a"`, `a"`, `"a`, `a"b`, `\"`, " ", " a", "a ", "a b", "\t", "a\tb", "\n", "a\r\n", "\x00", "\x1f", "\x7f", "a\x7f", "é ", "\xff\x00")
	printsNone(t, strings.Repeat("x", 200000)+" ", " "+strings.Repeat("x", 200000))
}

func TestPrintOfEachByte(t *testing.T) { // Q2: at each place of a Value
	for c := range 256 {
		x := string([]byte{byte(c)})
		for _, value := range []string{x, x + "y", "y" + x, "y" + x + "z", x + x, "é" + x, x + "é"} {
			if c == 33 || c >= 35 && c != 127 {
				printsBoth(t, value, `"`+value+`"`)
			} else {
				printsNone(t, value)
			}
		}
	}
}

func TestPrintOfEach(t *testing.T) { // Q2: of Values of a few pieces
	texts("", []string{"a", "W/", `"`, " ", ",", "*", "é", "\xff", "\x7f", "!", "#"}, 5, func(value string) {
		for _, x := range []api.Tag{strong(value), weak(value)} {
			want, number := printed(x)
			prints(t, x, want, number)
		}
	})
}

func TestPrintOfMuch(t *testing.T) { // Q2: no length is too great
	long := strings.Repeat("xY,\xff", 200000)
	printsBoth(t, long, `"`+long+`"`)
}
