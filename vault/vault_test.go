package vault_test

import (
	"fmt"
	"hash/adler32"
	"slices"
	"strconv"
	"strings"
	"testing"

	"broadsheet/api"
	"broadsheet/manifest"
	"broadsheet/plate"
	"broadsheet/vault"
)

const most = 1099511627776 // 2^40

// newPlate is a plate with so much room.
func newPlate(t *testing.T, room int) *plate.Plate {
	t.Helper()
	p, e := plate.New(room)
	if p == nil || e != api.OK {
		t.Fatalf("New(%d): %d", room, e)
	}
	return p
}

// is fails unless a call had the error that it should have.
func is(t *testing.T, what string, got, want api.Errno) {
	t.Helper()
	if got != want {
		t.Errorf("%s: error %d, not %d", what, got, want)
	}
}

// told is all that a plate tells: each name, rising, with its file's bytes.
func told(p *plate.Plate) string {
	var parts []string
	for _, name := range p.List() {
		s, _ := p.Read(name)
		parts = append(parts, name+"="+s)
	}
	return strings.Join(parts, " ")
}

// tells fails unless the plate tells what it should.
func tells(t *testing.T, what string, p *plate.Plate, want string) {
	t.Helper()
	if got := told(p); got != want {
		t.Errorf("%s: the plate tells %q, not %q", what, got, want)
	}
}

// files fails unless the plate has the files of these names.
func files(t *testing.T, what string, p *plate.Plate, want string) {
	t.Helper()
	if got := strings.Join(p.List(), " "); got != want {
		t.Errorf("%s: files %q, not %q", what, got, want)
	}
}

// put makes a file whose bytes are safe.
func put(t *testing.T, p *plate.Plate, name, s string) {
	t.Helper()
	is(t, "Create "+name, p.Create(name), api.OK)
	is(t, "Write "+name, p.Write(name, s), api.OK)
	is(t, "Sync "+name, p.Sync(name), api.OK)
	is(t, "SyncDir", p.SyncDir(), api.OK)
}

// row is that of a blob in a file with those bytes.
func row(name, file, s string) api.Row {
	return api.Row{Name: name, File: file, Size: len(s), Sum: int(adler32.Checksum([]byte(s)))}
}

// lines is a manifest.
func lines(t *testing.T, n int, l ...api.Row) string {
	t.Helper()
	s, e := manifest.Print(n, l)
	is(t, "Print", e, api.OK)
	return s
}

// opened is the vault on a plate.
func opened(t *testing.T, p *plate.Plate) *vault.Vault {
	t.Helper()
	v, e := vault.Open(p)
	if v == nil || e != api.OK {
		t.Fatalf("Open of %q: %d", told(p), e)
	}
	return v
}

// refuses fails unless Open has that error, and nothing else.
func refuses(t *testing.T, what string, p *plate.Plate, want api.Errno) {
	t.Helper()
	if v, e := vault.Open(p); v != nil || e != want {
		t.Errorf("%s: Open has error %d, not %d", what, e, want)
	}
}

// blobs are those of names and data in turn.
func blobs(words ...string) (l []api.Blob) {
	for i := 0; i < len(words); i += 2 {
		l = append(l, api.Blob{Name: words[i], Data: words[i+1]})
	}
	return l
}

// commits fails unless the commit has no error.
func commits(t *testing.T, v *vault.Vault, put []api.Blob, gone ...string) {
	t.Helper()
	is(t, "Commit", v.Commit(put, gone), api.OK)
}

// holds is all that a vault tells: its generation, and each name with its bytes.
func holds(v *vault.Vault) string {
	parts := []string{strconv.Itoa(v.Generation())}
	for _, name := range v.Names() {
		s, e := v.Get(name)
		if e != api.OK {
			s = fmt.Sprint("error ", e)
		}
		parts = append(parts, name+"="+s)
	}
	return strings.Join(parts, " ")
}

// has fails unless the vault tells what it should.
func has(t *testing.T, what string, v *vault.Vault, want string) {
	t.Helper()
	if got := holds(v); got != want {
		t.Errorf("%s: the vault has %q, not %q", what, got, want)
	}
}

func TestOpenWithoutManifest(t *testing.T) { // D1
	p := newPlate(t, 100)
	has(t, "a new plate", opened(t, p), "0")
	files(t, "a new plate", p, "")
	for _, name := range []string{"a", "g1-0", "manifest.new", "manifest-", "manifes", "manifest.old"} {
		put(t, p, name, "x")
	}
	has(t, "files without a manifest", opened(t, p), "0")
	files(t, "files without a manifest", p, "")
	p.Crash(0, 0)
	files(t, "the sweep is synced", p, "")
}

func TestOpenWithManifest(t *testing.T) { // D1
	for _, x := range []struct {
		n    int
		l    []api.Row
		want string
		left string
	}{
		{1, nil, "1", "manifest"},
		{7, []api.Row{row("a", "f1", "one")}, "7 a=one", "f1 manifest"},
		{7, []api.Row{row("a", "f2", ""), row("b", "f1", "one")}, "7 a= b=one", "f1 f2 manifest"},
		{most, []api.Row{row("a", "f1", "one"), row("b", "f1", "one")}, "1099511627776 a=one b=one", "f1 manifest"},
		{2, []api.Row{row("f2", "manifest.new", "more"), row("manifest", "f2", "")}, "2 f2=more manifest=", "f2 manifest manifest.new"},
		{0, []api.Row{row("a", "f1", "one")}, "0 a=one", "f1"}, // such a manifest isn't kept
		{0, nil, "0", ""},
	} {
		p := newPlate(t, 1000)
		put(t, p, "f1", "one")
		put(t, p, "f2", "")
		put(t, p, "manifest.new", "more")
		s := lines(t, x.n, x.l...)
		put(t, p, "manifest", s)
		v := opened(t, p)
		has(t, s, v, x.want)
		files(t, s, p, x.left)
		p.Crash(0, 0)
		files(t, s, p, x.left)
	}
}

func TestOpenOfAManifestThatIsItsOwnFile(t *testing.T) { // D1: the sweep takes what no row has, be it the manifest
	s := "generation 0\ny2aso5rq manifest 60 1404309821\nsum 1686638004\n"
	p := newPlate(t, 1000)
	put(t, p, "manifest", s)
	put(t, p, "a", "")
	v := opened(t, p)
	has(t, s, v, "0 y2aso5rq="+s)
	tells(t, s, p, "manifest="+s)
}

func TestOpenRefusesManifests(t *testing.T) { // D1
	fine := lines(t, 3, row("a", "f1", "one"))
	for _, s := range []string{"", "\n", "x", fine[1:], fine[:len(fine)-1], fine + "\n", fine + fine, strings.Replace(fine, "3", "4", 1),
		"generation 3\n", "generation 3\na f1 3 1\n", "generation 03\nsum 1\n"} {
		p := newPlate(t, 1000)
		put(t, p, "f1", "one")
		put(t, p, "more", "")
		put(t, p, "manifest", s)
		before := told(p)
		refuses(t, s, p, api.ErrForm)
		tells(t, "no sweep", p, before)
		p.Limit(0)
		refuses(t, s, p, api.ErrForm)
	}
}

func TestOpenRefusesFiles(t *testing.T) { // D1
	one, two := row("a", "f1", "one"), row("b", "f2", "other")
	for _, x := range []struct {
		what   string
		change func(*api.Row)
	}{
		{"no such file", func(r *api.Row) { r.File = "f3" }},
		{"the name as a file", func(r *api.Row) { r.File = r.Name }},
		{"the other file", func(r *api.Row) { r.File = map[string]string{"f1": "f2", "f2": "f1"}[r.File] }},
		{"a byte less", func(r *api.Row) { r.Size-- }},
		{"a byte more", func(r *api.Row) { r.Size++ }},
		{"no bytes", func(r *api.Row) { r.Size = 0 }},
		{"a sum less", func(r *api.Row) { r.Sum-- }},
		{"a sum more", func(r *api.Row) { r.Sum++ }},
		{"a sum beyond", func(r *api.Row) { r.Sum += 1 << 32 }},
		{"a sum of 0", func(r *api.Row) { r.Sum = 0 }},
		{"size and sum of nothing", func(r *api.Row) { r.Size, r.Sum = 0, 1 }},
		{"nothing, in no file", func(r *api.Row) { r.File, r.Size, r.Sum = "f3", 0, 1 }},
		{"nothings, in no file", func(r *api.Row) { r.File, r.Size, r.Sum = "f3", 0, 0 }},
	} {
		for at := range 2 {
			l := []api.Row{one, two}
			x.change(&l[at])
			p := newPlate(t, 1000)
			put(t, p, "f1", "one")
			put(t, p, "f2", "other")
			put(t, p, "more", "")
			put(t, p, "manifest", lines(t, 1, l...))
			before := told(p)
			refuses(t, x.what, p, api.ErrForm)
			tells(t, "no sweep", p, before)
		}
	}
}

func TestOpenOfOtherBytes(t *testing.T) { // D1
	noughts := strings.Repeat("\x00", 65521) // of no byte and of these there is one sum
	for _, x := range []struct{ told, is string }{
		{"", noughts}, {noughts, ""}, {"abc", "acb"}, {"abc", "abd"}, {"abc", "ab"}, {"abc", "abcd"}, {"abc", ""}, {"", "\x00"},
	} {
		p := newPlate(t, 100000)
		put(t, p, "f", x.is)
		put(t, p, "manifest", lines(t, 1, row("a", "f", x.told)))
		refuses(t, fmt.Sprintf("%.5q for %.5q", x.is, x.told), p, api.ErrForm)
	}
}

func TestOpenOfManyRows(t *testing.T) { // D1: rows of one file
	s := strings.Repeat("x", 1000000)
	l := slices.Repeat([]api.Row{row("", "f", s)}, 20000)
	for i := range l {
		l[i].Name = fmt.Sprintf("n%05d", i)
	}
	p := newPlate(t, api.MaxDisk)
	put(t, p, "f", s)
	put(t, p, "manifest", lines(t, 1, l...))
	v := opened(t, p)
	if got, e := v.Get("n19999"); got != s || e != api.OK || len(v.Names()) != 20000 {
		t.Errorf("%d bytes, %d, %d names", len(got), e, len(v.Names()))
	}
	put(t, p, "f2", "")
	p.Remove("f")
	refuses(t, "many rows", p, api.ErrForm)
}

func TestOpenSweepsInOrder(t *testing.T) { // D1
	s := lines(t, 1, row("x", "b", "kept"))
	for _, x := range []struct {
		power       int
		e           api.Errno
		left, crash string
	}{
		{0, api.ErrDead, "a b c manifest manifest.new z", "a b c manifest manifest.new z"},
		{1, api.ErrDead, "b c manifest manifest.new z", "a b c manifest manifest.new z"},
		{2, api.ErrDead, "b manifest manifest.new z", "a b c manifest manifest.new z"},
		{3, api.ErrDead, "b manifest z", "a b c manifest manifest.new z"},
		{4, api.ErrDead, "b manifest", "a b c manifest manifest.new z"},
		{5, api.OK, "b manifest", "b manifest"},
		{6, api.OK, "b manifest", "b manifest"},
		{-1, api.OK, "b manifest", "b manifest"},
	} {
		p := newPlate(t, 1000)
		for _, name := range []string{"z", "manifest.new", "c", "a"} {
			put(t, p, name, "")
		}
		put(t, p, "b", "kept")
		put(t, p, "manifest", s)
		what := "power " + strconv.Itoa(x.power)
		p.Limit(x.power)
		if x.e == api.OK {
			has(t, what, opened(t, p), "1 x=kept")
		} else {
			refuses(t, what, p, x.e)
		}
		files(t, what, p, x.left)
		p.Crash(0, 0)
		files(t, what+", crashed", p, x.crash)
		has(t, what, opened(t, p), "1 x=kept")
	}
}

func TestOpenWithoutASweep(t *testing.T) { // D1: where nothing went the directory isn't synced
	p := newPlate(t, 1000)
	p.Limit(0)
	has(t, "a new plate without power", opened(t, p), "0")
	p.Limit(-1)
	put(t, p, "g", "kept")
	is(t, "Create", p.Create("manifest"), api.OK)
	is(t, "Write", p.Write("manifest", lines(t, 4, row("x", "g", "kept"))), api.OK)
	p.Limit(0)
	v := opened(t, p)
	has(t, "without power", v, "4 x=kept")
	p.Limit(-1)
	has(t, "with power", opened(t, p), "4 x=kept")
	p.Crash(0, 9)
	files(t, "crashed", p, "g")
}

func TestGet(t *testing.T) { // D2
	v := opened(t, newPlate(t, 1000))
	if s, e := v.Get("a"); s != "" || e != api.ErrNone {
		t.Errorf("of nothing: %q, %d", s, e)
	}
	commits(t, v, blobs("b", "of b", "a.1", "", "zz", "\x00\xff\n"))
	for _, x := range []struct {
		name, s string
		e       api.Errno
	}{
		{"a.1", "", api.OK}, {"b", "of b", api.OK}, {"zz", "\x00\xff\n", api.OK},
		{"", "", api.ErrNone}, {"a", "", api.ErrNone}, {"a.", "", api.ErrNone}, {"a.10", "", api.ErrNone}, {"bb", "", api.ErrNone},
		{"z", "", api.ErrNone}, {"zzz", "", api.ErrNone}, {"B", "", api.ErrNone}, {"\xff", "", api.ErrNone},
		{"g1-0", "", api.ErrNone}, {"manifest", "", api.ErrNone},
	} {
		if s, e := v.Get(x.name); s != x.s || e != x.e {
			t.Errorf("Get %q: %q, %d, not %q, %d", x.name, s, e, x.s, x.e)
		}
	}
}

func TestNamesAndGeneration(t *testing.T) { // D2
	v := opened(t, newPlate(t, 1000))
	if len(v.Names()) != 0 || v.Generation() != 0 {
		t.Errorf("at first: %v, %d", v.Names(), v.Generation())
	}
	for i, x := range []struct {
		put  []api.Blob
		gone []string
		want string
	}{
		{nil, nil, "[]"},
		{blobs("b", "", "10", "", "9", "", "-", "", "a", "", ".", ""), nil, "[- . 10 9 a b]"},
		{blobs("aa", "", "b", ""), []string{"."}, "[- 10 9 a aa b]"},
		{nil, []string{"-", "b", "10"}, "[9 a aa]"},
	} {
		commits(t, v, x.put, x.gone...)
		if fmt.Sprint(v.Names()) != x.want || v.Generation() != i+1 {
			t.Errorf("%v, %d, not %s, %d", v.Names(), v.Generation(), x.want, i+1)
		}
	}
	v.Names()[0] = "written into"
	if fmt.Sprint(v.Names()) != "[9 a aa]" {
		t.Errorf("what was told is the vault's own: %v", v.Names())
	}
}

func TestCommit(t *testing.T) { // D3
	p := newPlate(t, 10000)
	v := opened(t, p)
	for _, x := range []struct {
		put   []api.Blob
		gone  []string
		holds string
		rows  []api.Row
		files string
	}{
		{blobs("a", "x"), nil, "1 a=x", []api.Row{row("a", "g1-0", "x")}, "g1-0=x"},
		{blobs("c", "C", "b", "B"), nil, "2 a=x b=B c=C",
			[]api.Row{row("a", "g1-0", "x"), row("b", "g2-1", "B"), row("c", "g2-0", "C")}, "g1-0=x g2-0=C g2-1=B"},
		{blobs("a", "y"), nil, "3 a=y b=B c=C", // in the old one's place
			[]api.Row{row("a", "g3-0", "y"), row("b", "g2-1", "B"), row("c", "g2-0", "C")}, "g2-0=C g2-1=B g3-0=y"},
		{nil, []string{"b"}, "4 a=y c=C", []api.Row{row("a", "g3-0", "y"), row("c", "g2-0", "C")}, "g2-0=C g3-0=y"},
		{blobs("a", "1", "d", "D", "a", "2"), nil, "5 a=2 c=C d=D", // the last one of a name
			[]api.Row{row("a", "g5-2", "2"), row("c", "g2-0", "C"), row("d", "g5-1", "D")}, "g2-0=C g5-1=D g5-2=2"},
		{blobs("a", "3", "e", ""), []string{"a", "e", "d", "d", "none", "", "NO NAME"}, "6 a=3 c=C e=", // what goes, goes ahead
			[]api.Row{row("a", "g6-0", "3"), row("c", "g2-0", "C"), row("e", "g6-1", "")}, "g2-0=C g6-0=3 g6-1="},
		{blobs("c", "C"), nil, "7 a=3 c=C e=", // the same bytes in another file
			[]api.Row{row("a", "g6-0", "3"), row("c", "g7-0", "C"), row("e", "g6-1", "")}, "g6-0=3 g6-1= g7-0=C"},
		{nil, nil, "8 a=3 c=C e=", []api.Row{row("a", "g6-0", "3"), row("c", "g7-0", "C"), row("e", "g6-1", "")}, "g6-0=3 g6-1= g7-0=C"},
		{nil, []string{"e", "c", "a"}, "9", nil, ""},
		{blobs("manifest", "m", "g10-0", "g"), nil, "10 g10-0=g manifest=m",
			[]api.Row{row("g10-0", "g10-1", "g"), row("manifest", "g10-0", "m")}, "g10-0=m g10-1=g"},
	} {
		commits(t, v, x.put, x.gone...)
		has(t, "behind a commit", v, x.holds)
		want := strings.TrimPrefix(x.files+" manifest=", " ") + lines(t, v.Generation(), x.rows...)
		tells(t, x.holds, p, want)
		p.Crash(0, 0)
		tells(t, x.holds+", crashed", p, want)
		has(t, "behind a crash", v, x.holds)
		has(t, "opened again", opened(t, p), x.holds)
	}
}

func TestCommitLeavesItsArguments(t *testing.T) { // D3: what is handed in is neither written into nor kept
	v := opened(t, newPlate(t, 1000))
	commits(t, v, blobs("c", "old"))
	in, out := blobs("b", "B", "a", "A", "behind", ""), []string{"q", "c", "behind"}
	commits(t, v, in[:2], out[:2]...)
	if fmt.Sprint(in, out) != "[{b B} {a A} {behind }] [q c behind]" {
		t.Errorf("%v %v", in, out)
	}
	in[0], in[1], out[1] = api.Blob{}, api.Blob{}, "a"
	has(t, "arguments written into", v, "2 a=A b=B")
}

func TestCommitRefusesNames(t *testing.T) { // D3
	p := newPlate(t, 1000)
	v := opened(t, p)
	commits(t, v, blobs("a", "x"))
	before := told(p)
	bad := []string{"", strings.Repeat("x", 33), "A", "aB", "a b", "a_", "a/b", "é", "a\n", "\xff", "a\x00"}
	for _, name := range bad {
		for _, l := range [][]api.Blob{blobs(name, "y"), blobs("a", "y", name, ""), blobs(name, "", "b", "y"), blobs("a", "1", "b", "2", name, "")} {
			is(t, strconv.Quote(name), v.Commit(l, []string{"a"}), api.ErrArg)
			has(t, "refused", v, "1 a=x")
			tells(t, "refused", p, before)
		}
		p.Limit(0)
		is(t, "without power", v.Commit(blobs(name, ""), nil), api.ErrArg)
		is(t, "gone without power", v.Commit(nil, []string{name}), api.ErrDead)
		p.Limit(-1)
	}
	commits(t, v, nil, bad...)
	var l []api.Blob
	for _, name := range []string{"z", "0", "9", ".", "-", "..", strings.Repeat("x", 32)} {
		l = append(l, api.Blob{Name: name, Data: "y"})
	}
	commits(t, v, l)
	if len(v.Names()) != 8 {
		t.Errorf("%v", v.Names())
	}
}

func TestCommitBytesOfNames(t *testing.T) { // D3
	for c := range 256 {
		v := opened(t, newPlate(t, 1000))
		want := api.ErrArg
		if strings.IndexByte("abcdefghijklmnopqrstuvwxyz0123456789.-", byte(c)) >= 0 {
			want = api.OK
		}
		for _, name := range []string{string([]byte{byte(c)}), string([]byte{'a', byte(c), 'a'}), string([]byte{'a', byte(c)})} {
			is(t, strconv.Quote(name), v.Commit(blobs(name, "x"), nil), want)
		}
	}
}

// atGeneration is a vault of that generation, and its plate.
func atGeneration(t *testing.T, n int) (*vault.Vault, *plate.Plate) {
	t.Helper()
	p := newPlate(t, 1000)
	put(t, p, "f", "old")
	put(t, p, "manifest", lines(t, n, row("a", "f", "old")))
	return opened(t, p), p
}

func TestCommitOfTheLastGeneration(t *testing.T) { // D3
	v, p := atGeneration(t, most-1)
	commits(t, v, blobs("b", "x"))
	has(t, "the last one", v, "1099511627776 a=old b=x")
	files(t, "the last one", p, "f g1099511627776-0 manifest")
	for range 2 {
		is(t, "one more", v.Commit(blobs("b", "y"), nil), api.ErrLong)
		is(t, "of nothing", v.Commit(nil, nil), api.ErrLong)
		is(t, "of no name", v.Commit(blobs("A", ""), nil), api.ErrLong)
		p.Limit(0)
		is(t, "without power", v.Commit(blobs("b", "y"), nil), api.ErrLong)
		p.Limit(-1)
		has(t, "refused", v, "1099511627776 a=old b=x")
		v = opened(t, p)
	}
}

func TestCommitErrorsAheadDoNotSweep(t *testing.T) { // D3
	for _, x := range []struct {
		n    int
		name string
		e    api.Errno
	}{{most, "b", api.ErrLong}, {most, "B", api.ErrLong}, {5, "B", api.ErrArg}} {
		v, p := atGeneration(t, x.n)
		put(t, p, "more", "")
		is(t, "refused", v.Commit(blobs(x.name, ""), nil), x.e)
		files(t, "refused", p, "f manifest more")
	}
}

// old and next are the manifests of TestCommitInTurn.
func old(t *testing.T) string {
	return " manifest=" + lines(t, 1, row("a", "g1-0", "old"), row("b", "g1-1", "B"))
}

func next(t *testing.T) string { return lines(t, 2, row("a", "g2-0", "new")) }

func TestCommitInTurn(t *testing.T) { // D3: each step, and what is on the plate where the power ends ahead of the next
	kept := "g1-0=old g1-1=B"
	for power, x := range []struct {
		now   string // told at once
		loose string // behind a crash that takes the loose bytes alone
		least string // behind one that takes the open steps, too
	}{
		{kept + old(t), kept + old(t), kept + old(t)},
		{kept + " g2-0=" + old(t), kept + " g2-0=" + old(t), kept + old(t)},
		{kept + " g2-0=new" + old(t), kept + " g2-0=" + old(t), kept + old(t)},
		{kept + " g2-0=new" + old(t), kept + " g2-0=new" + old(t), kept + old(t)},
		{kept + " g2-0=new" + old(t) + " manifest.new=", kept + " g2-0=new" + old(t) + " manifest.new=", kept + old(t)},
		{kept + " g2-0=new" + old(t) + " manifest.new=" + next(t), kept + " g2-0=new" + old(t) + " manifest.new=", kept + old(t)},
		{kept + " g2-0=new" + old(t) + " manifest.new=" + next(t), kept + " g2-0=new" + old(t) + " manifest.new=" + next(t), kept + old(t)},
		{kept + " g2-0=new" + old(t) + " manifest.new=" + next(t), kept + " g2-0=new" + old(t) + " manifest.new=" + next(t),
			kept + " g2-0=new" + old(t) + " manifest.new=" + next(t)},
		{kept + " g2-0=new manifest=" + next(t), kept + " g2-0=new manifest=" + next(t),
			kept + " g2-0=new" + old(t) + " manifest.new=" + next(t)},
		{kept + " g2-0=new manifest=" + next(t), kept + " g2-0=new manifest=" + next(t), kept + " g2-0=new manifest=" + next(t)},
		{"g1-1=B g2-0=new manifest=" + next(t), "g1-1=B g2-0=new manifest=" + next(t), kept + " g2-0=new manifest=" + next(t)},
		{"g2-0=new manifest=" + next(t), "g2-0=new manifest=" + next(t), kept + " g2-0=new manifest=" + next(t)},
		{"g2-0=new manifest=" + next(t), "g2-0=new manifest=" + next(t), "g2-0=new manifest=" + next(t)},
	} {
		for steps, want := range []string{x.least, x.loose} {
			p := newPlate(t, 1000)
			v := opened(t, p)
			commits(t, v, blobs("a", "old", "b", "B"))
			what, e, n := "power "+strconv.Itoa(power), api.ErrDead, 1
			if power == 12 {
				e = api.OK
			}
			if power >= 8 { // the new manifest is in its place
				n = 2
			}
			p.Limit(power)
			is(t, what, v.Commit(blobs("a", "new"), []string{"b"}), e)
			if v.Generation() != n || fmt.Sprint(v.Names()) != []string{"[a b]", "[a]"}[n-1] {
				t.Errorf("%s: generation %d, %v", what, v.Generation(), v.Names())
			}
			tells(t, what, p, x.now)
			is(t, "nothing is done any more", p.SyncDir(), api.ErrDead)
			p.Crash(99*steps, 0)
			tells(t, what+", crashed", p, want)
		}
	}
}

func TestCommitOfTwoInTurn(t *testing.T) { // D3: the one blob is safe ahead of the other's file
	for power, want := range []string{"", "g1-0=", "g1-0=", "g1-0=x", "g1-0=x g1-1=", "g1-0=x g1-1=", "g1-0=x g1-1=y", "g1-0=x g1-1=y manifest.new="} {
		p := newPlate(t, 1000)
		v := opened(t, p)
		p.Limit(power)
		is(t, "Commit", v.Commit(blobs("b", "x", "a", "y"), nil), api.ErrDead)
		has(t, "Commit", v, "0")
		p.Crash(99, 0)
		tells(t, "power "+strconv.Itoa(power), p, want)
	}
}

func TestCommitWithoutRoom(t *testing.T) { // D3
	size := len(lines(t, 1, row("a", "g1-0", "0123456789"), row("b", "g1-1", "x")))
	for _, x := range []struct {
		room int
		e    api.Errno
		none api.Errno // where nothing is put
	}{
		{9, api.ErrFull, api.ErrFull}, {10, api.ErrFull, api.ErrFull}, {11, api.ErrFull, api.ErrFull}, // for a, b and the manifest
		{10 + size, api.ErrFull, api.OK}, {11 + size, api.OK, api.OK},
	} {
		p := newPlate(t, x.room)
		v := opened(t, p)
		is(t, "room "+strconv.Itoa(x.room), v.Commit(blobs("a", "0123456789", "b", "x"), nil), x.e)
		if x.e != api.OK {
			has(t, "no room", v, "0")
			files(t, "no room", p, "")
			p.Crash(0, 0)
			files(t, "no room, crashed", p, "")
			is(t, "less", v.Commit(nil, nil), x.none)
			continue
		}
		has(t, "room", v, "1 a=0123456789 b=x")
		is(t, "no room", v.Commit(blobs("c", ""), nil), api.ErrFull) // for the second manifest, beside the first
		has(t, "no room", v, "1 a=0123456789 b=x")
		files(t, "no room", p, "g1-0 g1-1 manifest")
	}
}

func TestCommitWithoutFiles(t *testing.T) { // D3
	many := func(n int) (l []api.Blob) {
		for i := range n {
			l = append(l, api.Blob{Name: "n" + strconv.Itoa(i)})
		}
		return l
	}
	p := newPlate(t, 100000)
	v := opened(t, p)
	for _, n := range []int{200, 201, 1000, 100000} {
		is(t, "too many", v.Commit(many(n), nil), api.ErrFull)
		has(t, "too many", v, "0")
		files(t, "too many", p, "")
	}
	commits(t, v, many(199))
	if len(p.List()) != 200 || len(v.Names()) != 199 || v.Generation() != 1 {
		t.Errorf("%d files, %d names, generation %d", len(p.List()), len(v.Names()), v.Generation())
	}
	before := told(p)
	is(t, "one more", v.Commit(blobs("n0", ""), nil), api.ErrFull)
	is(t, "a manifest more", v.Commit(nil, []string{"n0"}), api.ErrFull)
	tells(t, "too many", p, before)
	if len(v.Names()) != 199 || v.Generation() != 1 {
		t.Errorf("%d names, generation %d", len(v.Names()), v.Generation())
	}
}

func TestCommitWhereAFileIs(t *testing.T) { // D3
	v, p := atGeneration(t, 8)
	for _, x := range []struct{ name, left string }{{"g9-0", "f manifest"}, {"g9-1", "f manifest"}, {"manifest.new", "f manifest"}} {
		put(t, p, x.name, "in the way")
		is(t, x.name, v.Commit(blobs("b", "1", "c", "2"), nil), api.ErrTwice)
		has(t, x.name, v, "8 a=old")
		files(t, x.name+", swept", p, x.left)
		p.Crash(0, 0)
		files(t, x.name+", crashed", p, x.left)
	}
	put(t, p, "g9-2", "not in the way")
	commits(t, v, blobs("b", "1", "c", "2"))
	has(t, "behind it", v, "9 a=old b=1 c=2")
	files(t, "behind it", p, "f g9-0 g9-1 manifest")
}

func TestCommitWhereARowsFileIs(t *testing.T) { // D3
	for _, name := range []string{"g2-0", "g2-1", "manifest.new"} {
		p := newPlate(t, 1000)
		put(t, p, name, "old")
		put(t, p, "manifest", lines(t, 1, row("a", name, "old")))
		v := opened(t, p)
		before := told(p)
		is(t, name, v.Commit(blobs("a", "1", "b", "2"), []string{"a"}), api.ErrTwice)
		has(t, name, v, "1 a=old")
		tells(t, name, p, before)
	}
}

func TestSweepBehindAnError(t *testing.T) { // D3: its own error isn't told, and it ends there
	for _, x := range []struct {
		power       int
		left, crash string
	}{
		{4, "f g9-0 g9-1 manifest more", "f manifest more"}, // power for the steps that have no error, and no more
		{5, "f g9-1 manifest more", "f manifest more"},
		{6, "f manifest more", "f manifest more"},
		{7, "f manifest", "f manifest more"},
		{8, "f manifest", "f manifest"},
	} {
		v, p := atGeneration(t, 8)
		put(t, p, "more", "")
		p.Limit(x.power)
		is(t, "Commit", v.Commit(blobs("b", "1", "c", strings.Repeat("x", 1000)), nil), api.ErrFull)
		has(t, "Commit", v, "8 a=old")
		files(t, "power "+strconv.Itoa(x.power), p, x.left)
		p.Crash(0, 0)
		files(t, "crashed", p, x.crash)
	}
}

func TestCommitAgainWhenThePowerIsBack(t *testing.T) { // D3: what is in the way goes with the error
	v, p := atGeneration(t, 8)
	p.Limit(2)
	is(t, "Commit", v.Commit(blobs("b", "1"), nil), api.ErrDead)
	files(t, "left", p, "f g9-0 manifest")
	p.Limit(-1)
	is(t, "again", v.Commit(blobs("b", "2"), nil), api.ErrTwice)
	files(t, "swept", p, "f manifest")
	commits(t, v, blobs("b", "3"))
	has(t, "in the end", v, "9 a=old b=3")
	has(t, "opened", opened(t, p), "9 a=old b=3")
}

func TestCommitBehindOneThatWasNotSynced(t *testing.T) { // D3
	for power := 8; power < 12; power++ { // the manifest is in its place, but not all behind it is done
		p := newPlate(t, 1000)
		v := opened(t, p)
		commits(t, v, blobs("a", "old", "b", "B"))
		p.Limit(power)
		is(t, "Commit", v.Commit(blobs("a", "new"), []string{"b"}), api.ErrDead)
		if v.Generation() != 2 {
			t.Errorf("power %d: generation %d", power, v.Generation())
		}
		p.Limit(-1)
		has(t, "power is back", v, "2 a=new")
		commits(t, v, blobs("c", "C"))
		has(t, "in the end", v, "3 a=new c=C")
		files(t, "in the end", p, "g2-0 g3-0 manifest")
	}
}

func TestCommitOfMuch(t *testing.T) { // D3
	s := strings.Repeat("0123456789abcdef", 1<<17)
	p := newPlate(t, api.MaxDisk)
	v := opened(t, p)
	commits(t, v, blobs("a", s))
	is(t, "too much", v.Commit(blobs("b", s), nil), api.ErrFull)
	is(t, "far too much", v.Commit(blobs("b", s+s+s), nil), api.ErrFull)
	if got, e := opened(t, p).Get("a"); got != s || e != api.OK {
		t.Errorf("%d bytes, %d", len(got), e)
	}
	commits(t, v, nil, "a")
	commits(t, v, blobs("b", s))
	if !slices.Equal(v.Names(), []string{"b"}) {
		t.Errorf("%v", v.Names())
	}
}
