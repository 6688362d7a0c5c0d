package plate_test

import (
	"math"
	"slices"
	"strconv"
	"strings"
	"testing"

	"broadsheet/api"
	"broadsheet/plate"
)

// newPlate is a plate with so much room, or the test's end.
func newPlate(t *testing.T, room int) *plate.Plate {
	t.Helper()
	p, e := plate.New(room)
	if p == nil || e != api.OK {
		t.Fatalf("New(%d): %d", room, e)
	}
	return p
}

// is fails unless a call had the error that it should have.
func is(t *testing.T, what string, got, want api.Errno) {
	t.Helper()
	if got != want {
		t.Errorf("%s: error %d, not %d", what, got, want)
	}
}

// told is all that a plate tells: each name, rising, with its file's bytes.
func told(t *testing.T, p *plate.Plate) string {
	t.Helper()
	var parts []string
	for _, name := range p.List() {
		s, e := p.Read(name)
		is(t, "Read "+name, e, api.OK)
		parts = append(parts, name+"="+s)
	}
	return strings.Join(parts, " ")
}

// tells fails unless the plate tells what it should.
func tells(t *testing.T, p *plate.Plate, want string) {
	t.Helper()
	if got := told(t, p); got != want {
		t.Errorf("told %q, not %q", got, want)
	}
}

// kept is a plate with a file of that name and bytes, nothing loose and no step open.
func kept(t *testing.T, name, s string) *plate.Plate {
	t.Helper()
	p := newPlate(t, 100)
	put(t, p, name, s)
	is(t, "Sync", p.Sync(name), api.OK)
	is(t, "SyncDir", p.SyncDir(), api.OK)
	return p
}

// put makes a file whose bytes are loose.
func put(t *testing.T, p *plate.Plate, name, s string) {
	t.Helper()
	is(t, "Create "+name, p.Create(name), api.OK)
	is(t, "Write "+name, p.Write(name, s), api.OK)
}

// fill makes files until there are as many as may be.
func fill(t *testing.T, p *plate.Plate) {
	t.Helper()
	for i := len(p.List()); i < api.MaxFiles; i++ {
		is(t, "Create", p.Create("f"+strconv.Itoa(i)), api.OK)
	}
}

// doubled is a plate on which a and b name one file with those bytes.
func doubled(t *testing.T, room int, s string) *plate.Plate {
	t.Helper()
	p := newPlate(t, room)
	put(t, p, "a", s)
	is(t, "SyncDir", p.SyncDir(), api.OK)
	is(t, "Rename", p.Rename("a", "b"), api.OK)
	p.Crash(1, len(s))
	return p
}

func TestNew(t *testing.T) { // A1
	for _, room := range []int{math.MinInt, -1, api.MaxDisk + 1, math.MaxInt} {
		if p, e := plate.New(room); p != nil || e != api.ErrArg {
			t.Errorf("New(%d): %v, %d", room, p, e)
		}
	}
	for _, room := range []int{0, 1, 5, api.MaxDisk} {
		p := newPlate(t, room)
		if len(p.List()) != 0 {
			t.Errorf("New(%d): files %v", room, p.List())
		}
		is(t, "Create", p.Create("a"), api.OK)
		is(t, "too much", p.Write("a", strings.Repeat("x", room+1)), api.ErrFull)
		is(t, "as much as there is room for", p.Write("a", strings.Repeat("x", room)), api.OK)
	}
}

func TestCreateNames(t *testing.T) { // A2
	p := newPlate(t, 10)
	for _, name := range []string{"a", "z", "0", "9", ".", "-", "..", "m.new-1", strings.Repeat("x", 32)} {
		is(t, "Create "+name, p.Create(name), api.OK)
		if s, e := p.Read(name); s != "" || e != api.OK {
			t.Errorf("%s: %q, %d", name, s, e)
		}
		is(t, "Create again "+name, p.Create(name), api.ErrTwice)
	}
	before := told(t, p)
	for _, name := range []string{"", strings.Repeat("x", 33), "é", "a\xff", "a\x00"} {
		is(t, "Create "+name, p.Create(name), api.ErrArg)
	}
	tells(t, p, before)
}

func TestCreateBytesOfNames(t *testing.T) { // A2
	for c := range 256 {
		want := api.ErrArg
		if strings.IndexByte("abcdefghijklmnopqrstuvwxyz0123456789.-", byte(c)) >= 0 {
			want = api.OK
		}
		for _, name := range []string{string([]byte{byte(c)}), string([]byte{'a', byte(c), 'a'}), string([]byte{'a', byte(c)})} {
			is(t, strconv.Quote(name), newPlate(t, 1).Create(name), want)
		}
	}
}

func TestCreateFull(t *testing.T) { // A2
	p := newPlate(t, 10)
	fill(t, p)
	before := told(t, p)
	is(t, "one more", p.Create("more"), api.ErrFull)
	is(t, "no name", p.Create("NO"), api.ErrArg)
	is(t, "one that is there", p.Create("f0"), api.ErrTwice)
	tells(t, p, before)
	is(t, "Remove", p.Remove("f0"), api.OK)
	is(t, "one in its place", p.Create("more"), api.OK)
	is(t, "one more", p.Create("f0"), api.ErrFull)
}

func TestCreateFullOfDoubles(t *testing.T) { // A2: a file that is named twice counts twice
	p := doubled(t, 10, "x")
	fill(t, p)
	is(t, "one more", p.Create("more"), api.ErrFull)
	p.SyncDir()
	is(t, "Rename", p.Rename("f2", "g"), api.OK)
	p.Crash(1, 0)
	if n := len(p.List()); n != api.MaxFiles+1 {
		t.Errorf("%d files", n)
	}
	is(t, "one more yet", p.Create("more"), api.ErrFull)
}

func TestCreateIsAStep(t *testing.T) { // A2
	p := newPlate(t, 10)
	put(t, p, "a", "x")
	put(t, p, "b", "y")
	p.Crash(1, 9)
	tells(t, p, "a=x")
}

func TestCreateAfterRemoveIsANewFile(t *testing.T) { // A2
	p := kept(t, "a", "old")
	p.Remove("a")
	put(t, p, "a", "new")
	tells(t, p, "a=new")
	p.Crash(0, 9)
	tells(t, p, "a=old")
}

func TestWrite(t *testing.T) { // A3
	p := newPlate(t, 10)
	is(t, "no file", p.Write("a", "x"), api.ErrNone)
	is(t, "no name", p.Write("A", strings.Repeat("x", 99)), api.ErrNone)
	put(t, p, "a", "12")
	put(t, p, "b", "345")
	is(t, "more", p.Write("a", "678"), api.OK)
	tells(t, p, "a=12678 b=345")
	is(t, "too much", p.Write("b", "abc"), api.ErrFull)
	tells(t, p, "a=12678 b=345")
	is(t, "the last room", p.Write("b", "ab"), api.OK)
	is(t, "one too much", p.Write("a", "y"), api.ErrFull)
	is(t, "nothing", p.Write("a", ""), api.OK)
	tells(t, p, "a=12678 b=345ab")
	p.Remove("b")
	is(t, "the room of what went", p.Write("a", "bcdef"), api.OK)
	tells(t, p, "a=12678bcdef")
}

func TestWriteIsLoose(t *testing.T) { // A3
	p := kept(t, "a", "abc")
	is(t, "Write", p.Write("a", "de"), api.OK)
	is(t, "Write", p.Write("a", "fg"), api.OK)
	tells(t, p, "a=abcdefg")
	p.Crash(0, 3)
	tells(t, p, "a=abcdef")
}

func TestWriteCountsDoublesTwice(t *testing.T) { // A3
	p := doubled(t, 10, "xyz")
	is(t, "five where there is room for four", p.Write("a", "12345"), api.ErrFull)
	is(t, "four", p.Write("a", "1234"), api.OK)
	tells(t, p, "a=xyz1234 b=xyz1234")
	is(t, "nothing, where there is too much", p.Write("b", ""), api.ErrFull)
}

func TestWriteWhereACrashLeftTooMuch(t *testing.T) { // A3: what was removed comes back and counts again
	p := newPlate(t, 10)
	put(t, p, "a", "12345678")
	is(t, "Sync", p.Sync("a"), api.OK)
	put(t, p, "b", "")
	p.SyncDir()
	p.Remove("a")
	is(t, "Write", p.Write("b", "abcdefgh"), api.OK)
	p.Crash(0, 8)
	tells(t, p, "a=12345678 b=abcdefgh")
	is(t, "nothing", p.Write("b", ""), api.ErrFull)
}

func TestSync(t *testing.T) { // A4
	p := kept(t, "a", "")
	is(t, "no file", p.Sync("b"), api.ErrNone)
	is(t, "no name", p.Sync("A"), api.ErrNone)
	p.Write("a", "xy")
	is(t, "Sync", p.Sync("a"), api.OK)
	p.Write("a", "z")
	tells(t, p, "a=xyz")
	p.Crash(0, 0)
	tells(t, p, "a=xy")
}

func TestSyncIsOfOneFile(t *testing.T) { // A4
	p := kept(t, "a", "")
	put(t, p, "b", "")
	p.SyncDir()
	p.Write("a", "x")
	p.Write("b", "y")
	p.Sync("a")
	p.Crash(0, 0)
	tells(t, p, "a=x b=")
}

func TestSyncLeavesTheDirectory(t *testing.T) { // A4
	p := newPlate(t, 10)
	put(t, p, "a", "x")
	p.Sync("a")
	p.Crash(0, 9)
	tells(t, p, "")
}

func TestRename(t *testing.T) { // A5
	p := newPlate(t, 10)
	put(t, p, "a", "x")
	put(t, p, "b", "y")
	is(t, "no file", p.Rename("c", "d"), api.ErrNone)
	is(t, "neither a file nor a name", p.Rename("c", "D"), api.ErrNone)
	is(t, "no name", p.Rename("a", "D"), api.ErrArg)
	is(t, "an empty name", p.Rename("a", ""), api.ErrArg)
	tells(t, p, "a=x b=y")
	is(t, "to itself", p.Rename("a", "a"), api.OK)
	tells(t, p, "a=x b=y")
	is(t, "to a new name", p.Rename("a", "c"), api.OK)
	tells(t, p, "b=y c=x")
	is(t, "to one that is there", p.Rename("c", "b"), api.OK)
	tells(t, p, "b=x")
	is(t, "one that went", p.Rename("c", "d"), api.ErrNone)
}

func TestRenameIsTwoSteps(t *testing.T) { // A5
	for steps, want := range []string{"a=x b=y", "a=x b=x", "b=x"} {
		p := kept(t, "a", "x")
		put(t, p, "b", "y")
		p.Sync("b")
		p.SyncDir()
		is(t, "Rename", p.Rename("a", "b"), api.OK)
		p.Crash(steps, 0)
		tells(t, p, want)
	}
}

func TestRenameToItselfIsNoStep(t *testing.T) { // A5
	p := kept(t, "a", "x")
	is(t, "Rename", p.Rename("a", "a"), api.OK)
	is(t, "Remove", p.Remove("a"), api.OK)
	p.Crash(1, 0)
	tells(t, p, "")
}

func TestRenameOfDoubles(t *testing.T) { // A5
	for steps, want := range []string{"a=x b=x", "a=x b=x", "b=x"} {
		p := doubled(t, 10, "x")
		tells(t, p, "a=x b=x")
		is(t, "Rename", p.Rename("a", "b"), api.OK)
		tells(t, p, "b=x")
		p.Crash(steps, 0)
		tells(t, p, want)
	}
}

func TestRenameMovesTheFile(t *testing.T) { // A5: its loose bytes, too
	p := kept(t, "a", "x")
	p.Write("a", "y")
	p.Rename("a", "b")
	p.Write("b", "z")
	tells(t, p, "b=xyz")
	p.Crash(0, 1)
	tells(t, p, "a=xy")
}

func TestRemove(t *testing.T) { // A5
	p := kept(t, "a", "x")
	is(t, "no file", p.Remove("b"), api.ErrNone)
	is(t, "no name", p.Remove(""), api.ErrNone)
	is(t, "Remove", p.Remove("a"), api.OK)
	is(t, "Remove again", p.Remove("a"), api.ErrNone)
	tells(t, p, "")
	p.Crash(0, 0)
	tells(t, p, "a=x")
	p.Remove("a")
	p.Crash(1, 0)
	tells(t, p, "")
}

func TestRemoveOfADouble(t *testing.T) { // A5: the name goes, the file stays under the other
	p := doubled(t, 10, "x")
	is(t, "Remove", p.Remove("a"), api.OK)
	tells(t, p, "b=x")
}

func TestSyncDir(t *testing.T) { // A6
	p := kept(t, "a", "x")
	put(t, p, "b", "y")
	p.Rename("a", "c")
	is(t, "SyncDir", p.SyncDir(), api.OK)
	p.Remove("b")
	tells(t, p, "c=x")
	p.Crash(0, 0)
	tells(t, p, "b= c=x")
}

func TestSyncDirLeavesNoSteps(t *testing.T) { // A6
	p := newPlate(t, 10)
	p.Create("a")
	p.SyncDir()
	p.Remove("a")
	p.Create("b")
	p.Crash(1, 0)
	tells(t, p, "")
}

func TestReadAndList(t *testing.T) { // A7
	p := newPlate(t, 100)
	if len(p.List()) != 0 {
		t.Errorf("files %v", p.List())
	}
	for _, name := range []string{"b", "a-", "a", "10", "9", "-", ".", "ab", "a."} {
		put(t, p, name, "1"+name)
		p.Sync(name)
		p.Write(name, "2\x00\xff")
	}
	want := []string{"-", ".", "10", "9", "a", "a-", "a.", "ab", "b"}
	if got := p.List(); !slices.Equal(got, want) {
		t.Errorf("List: %v", got)
	}
	for _, name := range want {
		if s, e := p.Read(name); s != "1"+name+"2\x00\xff" || e != api.OK {
			t.Errorf("Read %s: %q, %d", name, s, e)
		}
	}
	for _, name := range []string{"c", "", "A"} {
		if s, e := p.Read(name); s != "" || e != api.ErrNone {
			t.Errorf("Read %q: %q, %d", name, s, e)
		}
	}
	p.List()[0] = "z"
	if got := p.List(); !slices.Equal(got, want) {
		t.Errorf("List, when another was written into: %v", got)
	}
}

// things are the calls that take power, each of which could be done to a plate with a file a.
func things(p *plate.Plate) []func() api.Errno {
	return []func() api.Errno{
		func() api.Errno { return p.Create("b") },
		func() api.Errno { return p.Write("a", "y") },
		func() api.Errno { return p.Write("a", "") },
		func() api.Errno { return p.Sync("a") },
		func() api.Errno { return p.SyncDir() },
		func() api.Errno { return p.Rename("a", "a") },
		func() api.Errno { return p.Rename("a", "c") },
		func() api.Errno { return p.Remove("a") },
	}
}

func TestNoPower(t *testing.T) { // A8
	for i := range things(nil) {
		p := kept(t, "a", "x")
		p.Write("a", "loose")
		p.Create("open")
		before := told(t, p)
		p.Limit(0)
		for range 2 {
			is(t, "thing "+strconv.Itoa(i), things(p)[i](), api.ErrDead)
		}
		tells(t, p, before)
		p.Crash(0, 0)
		tells(t, p, "a=x")
	}
}

func TestNoPowerLeavesStepsAndLooseBytes(t *testing.T) { // A8: beside an error nothing is changed
	for i := range things(nil) {
		p := kept(t, "a", "x")
		p.Limit(0)
		is(t, "thing "+strconv.Itoa(i), things(p)[i](), api.ErrDead)
		p.Limit(-1)
		is(t, "Create", p.Create("d"), api.OK)
		p.Crash(1, 9)
		tells(t, p, "a=x d=")
	}
}

func TestPowerGetsLess(t *testing.T) { // A8
	for n := range 12 {
		for i := range things(nil) {
			p := kept(t, "a", "x")
			p.Limit(n)
			for range n - 1 {
				is(t, "Sync", p.Sync("a"), api.OK)
			}
			want, left := api.OK, api.ErrDead
			if n == 0 {
				want = api.ErrDead
			}
			is(t, "thing "+strconv.Itoa(i), things(p)[i](), want)
			is(t, "what is behind it", p.SyncDir(), left)
		}
	}
}

func TestErrorsTakeNoPower(t *testing.T) { // A8: and they come ahead of a lack of it
	p := kept(t, "a", strings.Repeat("x", 100))
	for _, n := range []int{0, 1, -1} {
		p.Limit(n)
		is(t, "Create", p.Create("A"), api.ErrArg)
		is(t, "Create", p.Create("a"), api.ErrTwice)
		is(t, "Write", p.Write("b", "y"), api.ErrNone)
		is(t, "Write", p.Write("a", "y"), api.ErrFull)
		is(t, "Sync", p.Sync("b"), api.ErrNone)
		is(t, "Rename", p.Rename("b", "c"), api.ErrNone)
		is(t, "Rename", p.Rename("a", "A"), api.ErrArg)
		is(t, "Remove", p.Remove("b"), api.ErrNone)
		if n == 1 {
			is(t, "Sync", p.Sync("a"), api.OK)
			is(t, "Sync", p.Sync("a"), api.ErrDead)
		}
	}
	fill(t, p)
	p.Limit(0)
	is(t, "Create", p.Create("more"), api.ErrFull)
}

func TestTellingTakesNoPower(t *testing.T) { // A7, A8
	p := kept(t, "a", "x")
	p.Limit(1)
	tells(t, p, "a=x")
	tells(t, p, "a=x")
	is(t, "Sync", p.Sync("a"), api.OK)
	is(t, "Sync", p.Sync("a"), api.ErrDead)
	tells(t, p, "a=x")
}

func TestEndlessPower(t *testing.T) { // A8
	for _, n := range []int{-1, -2, math.MinInt} {
		p := kept(t, "a", "x")
		p.Limit(0)
		p.Limit(n)
		for range 1000 {
			is(t, "Sync", p.Sync("a"), api.OK)
		}
		p.Limit(2)
		p.Limit(1)
		is(t, "Sync", p.Sync("a"), api.OK)
		is(t, "Sync", p.Sync("a"), api.ErrDead)
	}
}

func TestCrash(t *testing.T) { // A9
	for _, x := range []struct {
		steps, bytes int
		want         string
	}{
		{0, 0, "a=abc d=1"},
		{0, 2, "a=abcde d=12"},
		{0, 99, "a=abcdef d=12"},
		{math.MinInt, math.MinInt, "a=abc d=1"},
		{-1, -1, "a=abc d=1"},
		{1, 1, "a=abcd b=g d=12"},
		{2, 1, "a=abcd b=g c=abcd d=12"},
		{3, 1, "b=g c=abcd d=12"},
		{4, 0, "b= c=abc"},
		{5, 1, "b=g c=abcd d=j"},
		{6, 9, "b=ghi c=abcdef d=jk"},
		{math.MaxInt, math.MaxInt, "b=ghi c=abcdef d=jk"},
		{math.MaxInt, math.MinInt, "b= c=abc d="},
		{math.MinInt, math.MaxInt, "a=abcdef d=12"},
	} {
		p := kept(t, "a", "abc")
		put(t, p, "d", "1")
		p.Sync("d")
		p.SyncDir()
		p.Write("d", "2")
		p.Write("a", "d")
		p.Write("a", "ef")
		put(t, p, "b", "ghi")
		p.Rename("a", "c")
		p.Remove("d")
		put(t, p, "d", "jk")
		tells(t, p, "b=ghi c=abcdef d=jk")
		p.Crash(x.steps, x.bytes)
		tells(t, p, x.want)
	}
}

func TestCrashLeavesNothingLooseOrOpen(t *testing.T) { // A9
	p := kept(t, "a", "abc")
	p.Write("a", "def")
	put(t, p, "b", "x")
	p.Remove("a")
	p.Crash(1, 2)
	tells(t, p, "a=abcde b=x")
	p.Crash(99, 99)
	tells(t, p, "a=abcde b=x")
	p.Crash(0, 0)
	tells(t, p, "a=abcde b=x")
	p.Write("a", "yz")
	p.Crash(0, 1)
	tells(t, p, "a=abcdey b=x")
}

func TestCrashLosesFilesForGood(t *testing.T) { // A9
	p := newPlate(t, 3)
	put(t, p, "a", "xyz")
	p.Sync("a")
	p.Crash(0, 0)
	tells(t, p, "")
	put(t, p, "a", "123")
	tells(t, p, "a=123")
}

func TestCrashGivesEndlessPower(t *testing.T) { // A9
	for n := range 3 {
		p := kept(t, "a", "x")
		p.Limit(n)
		p.Crash(0, 0)
		for range 100 {
			is(t, "Sync", p.Sync("a"), api.OK)
		}
	}
}

func TestExamples(t *testing.T) {
	p := newPlate(t, 100)
	put(t, p, "a", "xy")
	p.SyncDir()
	p.Crash(9, 1)
	tells(t, p, "a=x")
	p.Create("b")
	p.Crash(0, 9)
	tells(t, p, "a=x")
}
