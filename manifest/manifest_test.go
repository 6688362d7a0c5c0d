package manifest_test

import (
	"fmt"
	"hash/adler32"
	"math"
	"regexp"
	"slices"
	"strconv"
	"strings"
	"testing"

	"broadsheet/api"
	"broadsheet/manifest"
)

const most = 1099511627776 // 2^40

// summed is the lines with the line of their sum behind them.
func summed(lines string) string {
	return fmt.Sprintf("%ssum %d\n", lines, adler32.Checksum([]byte(lines)))
}

// lines is C1 word by word.
func lines(n int, l []api.Row) string {
	s := fmt.Sprintf("generation %d\n", n)
	for _, r := range l {
		s += fmt.Sprintf("%s %s %d %d\n", r.Name, r.File, r.Size, r.Sum)
	}
	return summed(s)
}

// prints fails unless Print tells that text.
func prints(t *testing.T, n int, l []api.Row, want string) {
	t.Helper()
	if got, e := manifest.Print(n, l); got != want || e != api.OK {
		t.Errorf("Print %d %v: %q, %d, not %q", n, l, got, e, want)
	}
}

// refuses fails unless Print tells nothing.
func refuses(t *testing.T, n int, l []api.Row) {
	t.Helper()
	if got, e := manifest.Print(n, l); got != "" || e != api.ErrForm {
		t.Errorf("Print %d %v: %q, %d", n, l, got, e)
	}
}

// parses fails unless Parse answers these.
func parses(t *testing.T, s string, n int, l []api.Row) {
	t.Helper()
	gotN, gotL, e := manifest.Parse(s)
	if gotN != n || !slices.Equal(gotL, l) || e != api.OK {
		t.Errorf("Parse %q: %d, %v, %d, not %d, %v", s, gotN, gotL, e, n, l)
	}
}

// isNothing fails unless Parse answers nothing.
func isNothing(t *testing.T, s string) {
	t.Helper()
	if n, l, e := manifest.Parse(s); n != 0 || len(l) != 0 || e != api.ErrForm {
		t.Fatalf("Parse %q: %d, %v, %d", s, n, l, e)
	}
}

// A dice throws numbers that are the same in each run.
type dice uint64

func (d *dice) below(n int) int {
	*d = *d*6364136223846793005 + 1442695040888963407
	return int(*d >> 33 % dice(n))
}

// number is one from 0 to 2^40, the edges more often than others.
func (d *dice) number() int {
	few := []int{0, 1, 9, 10, 99, 100, 1<<32 - 1, most - 1, most}
	if i := d.below(2 * len(few)); i < len(few) {
		return few[i]
	}
	return (d.below(1<<31)<<31 + d.below(1<<31)) >> d.below(60) % (most + 1)
}

// name is one of few bytes, so that many begin alike, and now and then the longest.
func (d *dice) name() string {
	n := 1 + d.below(3)
	if d.below(9) == 0 {
		n = 32
	}
	s := make([]byte, n)
	for i := range s {
		s[i] = "az09.-"[d.below(6)]
	}
	return string(s)
}

// rows are up to n rows that may stand so.
func (d *dice) rows(n int) []api.Row {
	var l []api.Row
	for range d.below(n + 1) {
		l = append(l, api.Row{Name: d.name(), File: d.name(), Size: d.number(), Sum: d.number()})
	}
	slices.SortFunc(l, func(a, b api.Row) int { return strings.Compare(a.Name, b.Name) })
	return slices.CompactFunc(l, func(a, b api.Row) bool { return a.Name == b.Name })
}

// one is a row that may be, and stands ahead of other.
func one() api.Row { return api.Row{Name: "m", File: "f1", Size: 3, Sum: 7} }

func other() api.Row { return api.Row{Name: "n", File: "f1", Size: 0, Sum: 0} }

func TestPrint(t *testing.T) { // C1
	for _, x := range []struct {
		n    int
		l    []api.Row
		want string
	}{
		{0, nil, "generation 0\nsum 604570759\n"},
		{0, []api.Row{}, "generation 0\nsum 604570759\n"},
		{1, []api.Row{{Name: "a", File: "b1", Size: 3, Sum: 7}}, "generation 1\na b1 3 7\nsum 1465124432\n"},
		{12, []api.Row{{Name: "a", File: "b1", Size: 3, Sum: 7}, {Name: "b", File: "g1-0", Size: 0, Sum: most}},
			summed("generation 12\na b1 3 7\nb g1-0 0 1099511627776\n")},
		{10, []api.Row{{Name: "generation", File: "sum"}, {Name: "sum", File: "sum"}},
			summed("generation 10\ngeneration sum 0 0\nsum sum 0 0\n")},
		{7, []api.Row{{Name: "5", File: "5", Size: 5, Sum: 5}}, summed("generation 7\n5 5 5 5\n")},
		{most, []api.Row{{Name: "a", File: "b", Size: most, Sum: most}},
			summed("generation 1099511627776\na b 1099511627776 1099511627776\n")},
		{most - 1, []api.Row{{Name: "a", File: "b", Size: most - 1, Sum: 1 << 32}},
			summed("generation 1099511627775\na b 1099511627775 4294967296\n")},
	} {
		prints(t, x.n, x.l, x.want)
	}
}

func TestPrintOfManyRows(t *testing.T) { // C1
	d := dice(1)
	for range 2000 {
		n, l := d.number(), d.rows(12)
		prints(t, n, l, lines(n, l))
	}
	for _, n := range []int{199, 200, 201, 1000} { // more than a plate's files, too
		var l []api.Row
		for i := range n {
			l = append(l, api.Row{Name: fmt.Sprintf("n%04d", i), File: "f" + strconv.Itoa(i), Size: i, Sum: n - i})
		}
		prints(t, n, l, lines(n, l))
		parses(t, lines(n, l), n, l)
		l[n-1].File = "F"
		refuses(t, n, l)
	}
}

func TestPrintRefusesNumbers(t *testing.T) { // C1
	for _, n := range []int{math.MinInt, -most, -1, most + 1, 2 * most, math.MaxInt} {
		refuses(t, n, nil)
		refuses(t, n, []api.Row{one()})
		for at := range 2 { // in each row
			size, sum := []api.Row{one(), other()}, []api.Row{one(), other()}
			size[at].Size = n
			sum[at].Sum = n
			refuses(t, 1, size)
			refuses(t, 1, sum)
		}
	}
}

// noNames are texts that no file may have as its name.
func noNames() []string {
	l := []string{"", strings.Repeat("x", 33), "é", "a b", "a\n", "\na", "a\x00", "a\xff", "A", "aB", "a_", "a/b"}
	for c := range 256 {
		if strings.IndexByte("abcdefghijklmnopqrstuvwxyz0123456789.-", byte(c)) < 0 {
			l = append(l, string([]byte{byte(c)}), string([]byte{'m', byte(c)}), string([]byte{'m', byte(c), 'm'}))
		}
	}
	return l
}

func TestPrintRefusesWhatIsNoName(t *testing.T) { // C1
	for _, s := range noNames() {
		refuses(t, 1, []api.Row{{Name: s, File: "f"}})
		refuses(t, 1, []api.Row{{Name: "m", File: s}})
		refuses(t, 1, []api.Row{one(), {Name: "n", File: s}})
		refuses(t, 1, []api.Row{{Name: "m", File: s}, other()})
		if s > "m" {
			refuses(t, 1, []api.Row{one(), {Name: s, File: "f"}})
		}
	}
	for _, s := range []string{"a", "z", "0", "9", ".", "-", "..", strings.Repeat("x", 32)} {
		l := []api.Row{{Name: s, File: s, Size: 1, Sum: 2}}
		prints(t, 1, l, lines(1, l))
	}
}

func TestPrintRefusesRowsThatDoNotRise(t *testing.T) { // C1
	names := []string{"-", "-a", ".", "0", "10", "9", "a", "a-", "a.", "a0", "aa", "ab", "b", strings.Repeat("b", 32)}
	for i, first := range names {
		for k, second := range names {
			l := []api.Row{{Name: first, File: "f"}, {Name: second, File: "f"}}
			if i < k {
				prints(t, 1, l, lines(1, l))
			} else {
				refuses(t, 1, l)
			}
		}
	}
	a, b, c := api.Row{Name: "a", File: "f"}, api.Row{Name: "b", File: "e"}, api.Row{Name: "c", File: "d"}
	refuses(t, 1, []api.Row{a, c, b})
	refuses(t, 1, []api.Row{b, a, c})
	refuses(t, 1, []api.Row{a, b, b})
	refuses(t, 1, []api.Row{a, b, a})
	prints(t, 1, []api.Row{a, b, c}, summed("generation 1\na f 0 0\nb e 0 0\nc d 0 0\n")) // files need not rise
}

func TestPrintLeavesTheRows(t *testing.T) { // C1: what is handed in is not written into
	l := []api.Row{one(), other(), {Name: "behind"}}
	manifest.Print(1, l[:2])
	if want := []api.Row{one(), other(), {Name: "behind"}}; !slices.Equal(l, want) {
		t.Errorf("%v", l)
	}
}

func TestParse(t *testing.T) { // C2
	for _, x := range []struct {
		s string
		n int
		l []api.Row
	}{
		{"generation 0\nsum 604570759\n", 0, nil},
		{"generation 1\na b1 3 7\nsum 1465124432\n", 1, []api.Row{{Name: "a", File: "b1", Size: 3, Sum: 7}}},
		{summed("generation 1099511627776\na b 1099511627776 1099511627776\n"), most,
			[]api.Row{{Name: "a", File: "b", Size: most, Sum: most}}},
		{summed("generation 10\n10 sum 0 0\ngeneration 1 1 2\nsum g1-0 2 1\n"), 10,
			[]api.Row{{Name: "10", File: "sum"}, {Name: "generation", File: "1", Size: 1, Sum: 2}, {Name: "sum", File: "g1-0", Size: 2, Sum: 1}}},
	} {
		parses(t, x.s, x.n, x.l)
	}
}

func TestParseOfOtherForms(t *testing.T) { // C2: what is summed well, but isn't lines that are told
	for _, s := range []string{
		"",
		"\n",
		"generation\n",
		"generation \n",
		"generation 1",
		" generation 1\n",
		"generation  1\n",
		"generation 1 \n",
		"generation\t1\n",
		"generation 1\r\n",
		"\ngeneration 1\n",
		"generation 1\n\n",
		"Generation 1\n",
		"generations 1\n",
		"1\n",
		"generation1\n",
		"generation generation 1\n",
		"generation 1 2\n",
		"generation x\n",
		"generation 1\ngeneration 1\n",
		"generation 1\ngeneration 2\n",
		"a f 1 1\n",
		"a f 1 1\ngeneration 1\n",
		"generation 1\na f 1\n",
		"generation 1\na f 1 1 1\n",
		"generation 1\na f 1 1 \n",
		"generation 1\n a f 1 1\n",
		"generation 1\na  f 1 1\n",
		"generation 1\na f  1 1\n",
		"generation 1\na f 1  1\n",
		"generation 1\na f 1 1",
		"generation 1\na f 1 1\n\n",
		"generation 1\n\na f 1 1\n",
		"generation 1\na f 1 1\r\n",
		"generation 1\na\tf 1 1\n",
		"generation 1\n f 1 1\n",
		"generation 1\na  1 1\n",
		"generation 1\na f 1 \n",
		"generation 1\na f  1\n",
		"generation 1\na f x 1\n",
		"generation 1\na f 1 x\n",
		"generation 1\na f 1 1\nb f 1\n",
		"generation 1\nb f 1 1\na f 1 1\n",
		"generation 1\na f 1 1\na f 1 1\n",
		"generation 1\na f 1 1\na g 2 2\n",
		"generation 1\nsum 1\n",
		"generation 1\na f 1 1\nsum 1\nb f 1 1\n",
	} {
		isNothing(t, s)
		isNothing(t, summed(s))
	}
	isNothing(t, summed(summed("generation 1\n"))) // a sum of what has one
}

func TestParseOfWhatIsNoNumberOrName(t *testing.T) { // C2
	for _, s := range []string{"", "00", "01", "007", "+1", "-1", "-0", "+0", "1.", "1e3", "0x1", "1_000", "a", "1a", "\u0661", "1\x00",
		"1099511627777", "01099511627776", "9223372036854775807", "9223372036854775808", "-9223372036854775808", "18446744073709551617",
		strings.Repeat("9", 1000), strings.Repeat("0", 1000)} {
		isNothing(t, summed("generation "+s+"\n"))
		isNothing(t, summed("generation 1\na f "+s+" 1\n"))
		isNothing(t, summed("generation 1\na f 1 "+s+"\n"))
		isNothing(t, summed("generation 1\na f 1 1\nb f 1 "+s+"\n"))
	}
	for _, s := range noNames() {
		isNothing(t, summed("generation 1\n"+s+" f 1 1\n"))
		isNothing(t, summed("generation 1\na "+s+" 1 1\n"))
	}
}

func TestParseOfSums(t *testing.T) { // C2
	body := "generation 1\na b1 3 7\n"
	parses(t, body+"sum 1465124432\n", 1, []api.Row{{Name: "a", File: "b1", Size: 3, Sum: 7}})
	for _, last := range []string{"", "\n", "sum", "sum\n", "sum \n", "sum 1465124432", "sum 1465124431\n", "sum 1465124433\n", "sum 01465124432\n",
		"sum +1465124432\n", "sum  1465124432\n", "sum 1465124432 \n", " sum 1465124432\n", "sum 1465124432\r\n", "sum 1465124432\n\n",
		"sum 1465124432\nx", "sum 1465124432\nsum 1465124432\n", "Sum 1465124432\n", "1465124432\n", "sum 5760091728\n", "sum 0\n", "sum -1\n",
		"sum 1465124432 1\n", "sum f 1465124432 1\n", "\nsum 1465124432\n"} {
		isNothing(t, body+last)
	}
}

// form is C2's lines as a pattern; what it can't tell is how great numbers are, whether names rise, and the sum.
var form = regexp.MustCompile(`^generation (0|[1-9][0-9]*)\n((?:[a-z0-9.-]{1,32} [a-z0-9.-]{1,32} (?:0|[1-9][0-9]*) (?:0|[1-9][0-9]*)\n)*)sum (0|[1-9][0-9]*)\n$`)

// read is C2 by that pattern.
func read(s string) (n int, l []api.Row, ok bool) {
	parts := form.FindStringSubmatch(s)
	if parts == nil {
		return 0, nil, false
	}
	n, ok = reckoned(parts[1])
	for line := range strings.Lines(parts[2]) {
		words := strings.Fields(line)
		size, fine := reckoned(words[2])
		sum, too := reckoned(words[3])
		ok = ok && fine && too && (len(l) == 0 || l[len(l)-1].Name < words[0])
		l = append(l, api.Row{Name: words[0], File: words[1], Size: size, Sum: sum})
	}
	return n, l, ok && strings.HasSuffix(summed(s[:strings.LastIndex(s, "sum ")]), "\nsum "+parts[3]+"\n")
}

// reckoned is the number of the digits, if that is not above 2^40.
func reckoned(digits string) (n int, ok bool) {
	n, err := strconv.Atoi(digits)
	return n, err == nil && n <= most
}

// near is a text that is almost lines: a few parts of some are others, doubled or gone. Mostly the sum is right.
func near(d *dice) string {
	l := strings.SplitAfter(lines(d.number(), d.rows(3)), " ")
	for range d.below(3) {
		i := d.below(len(l))
		parts := []string{"", " ", "\n", "0", "1 ", "a ", "a f 1 1\n", "generation ", "1\nsum ", l[i] + l[i], l[d.below(len(l))]}
		l[i] = parts[d.below(len(parts))]
	}
	s := strings.Join(l, "")
	if at := strings.LastIndex(s, "sum "); at >= 0 && d.below(5) > 0 {
		return summed(s[:at])
	}
	return s
}

func TestParseOfManyTexts(t *testing.T) { // C2, C3
	d := dice(2)
	lines, others := 0, 0
	for range 50000 {
		s := near(&d)
		n, l, ok := read(s)
		if !ok {
			others++
			isNothing(t, s)
			continue
		}
		lines++
		parses(t, s, n, l)
		prints(t, n, l, s)
	}
	if lines < 5000 || others < 5000 {
		t.Errorf("%d lines and %d other texts: too few", lines, others)
	}
}

func TestWhatIsToldIsRead(t *testing.T) { // C3
	d := dice(3)
	for range 2000 {
		n, l := d.number(), d.rows(12)
		s, e := manifest.Print(n, l)
		if e != api.OK {
			t.Fatalf("Print %d %v: %d", n, l, e)
		}
		parses(t, s, n, l)
	}
}

// told are some texts that are lines.
func told() []string {
	l := []string{
		lines(0, nil),
		lines(1, []api.Row{one()}),
		lines(10, []api.Row{{Name: "generation", File: "sum", Size: 1, Sum: 10}, {Name: "sum", File: "sum", Size: 100, Sum: 0}}),
		lines(most, []api.Row{{Name: strings.Repeat("a", 32), File: strings.Repeat("z", 32), Size: most, Sum: most}}),
	}
	d := dice(4)
	for range 20 {
		l = append(l, lines(d.number(), d.rows(4)))
	}
	return l
}

func TestAnotherByte(t *testing.T) { // C3
	for _, s := range told() {
		for at := range len(s) {
			for c := range 256 {
				if byte(c) != s[at] {
					isNothing(t, s[:at]+string([]byte{byte(c)})+s[at+1:])
				}
			}
		}
	}
}

func TestBeginnings(t *testing.T) { // C3
	for _, s := range told() {
		for n := range len(s) {
			isNothing(t, s[:n])
		}
	}
}

func TestParseOfLongTexts(t *testing.T) { // C2: it ends
	for _, s := range []string{" ", "\n", "a", "a ", "   \n", "a f 1 1\n", "sum 1\n", "\x00", "9"} {
		long := strings.Repeat(s, 1000000)
		isNothing(t, long)
		isNothing(t, "generation 1\n"+long)
	}
}
