package vault_test

import (
	"fmt"
	"hash/adler32"
	"maps"
	"regexp"
	"slices"
	"strings"
	"testing"

	"broadsheet/api"
	"broadsheet/manifest"
	"broadsheet/plate"
	"broadsheet/vault"
)

// A model is a vault word by word, on a plate of its own.
type model struct {
	p    *plate.Plate
	n    int
	rows []api.Row
}

func (m *model) open() api.Errno {
	m.n, m.rows = 0, nil
	if slices.Contains(m.p.List(), "manifest") {
		s, _ := m.p.Read("manifest")
		n, rows, e := manifest.Parse(s)
		if e != api.OK {
			return api.ErrForm
		}
		for _, r := range rows {
			s, e := m.p.Read(r.File)
			if e != api.OK || len(s) != r.Size || int(adler32.Checksum([]byte(s))) != r.Sum {
				return api.ErrForm
			}
		}
		m.n, m.rows = n, rows
	}
	return m.sweep()
}

func (m *model) sweep() api.Errno {
	some := false
	for _, name := range m.p.List() {
		if slices.ContainsFunc(m.rows, func(r api.Row) bool { return r.File == name }) || name == "manifest" && m.n > 0 {
			continue
		}
		if e := m.p.Remove(name); e != api.OK {
			return e
		}
		some = true
	}
	if some {
		return m.p.SyncDir()
	}
	return api.OK
}

// file makes one, with those bytes.
func (m *model) file(name, s string) api.Errno {
	if e := m.p.Create(name); e != api.OK {
		return e
	}
	if e := m.p.Write(name, s); e != api.OK {
		return e
	}
	return m.p.Sync(name)
}

// changed are the rows that are to be.
func (m *model) changed(put []api.Blob, gone []string) (rows []api.Row) {
	for _, r := range m.rows {
		if !slices.Contains(gone, r.Name) {
			rows = append(rows, r)
		}
	}
	for i, b := range put {
		rows = slices.DeleteFunc(rows, func(r api.Row) bool { return r.Name == b.Name })
		rows = append(rows, row(b.Name, fmt.Sprintf("g%d-%d", m.n+1, i), b.Data))
	}
	slices.SortFunc(rows, func(a, b api.Row) int { return strings.Compare(a.Name, b.Name) })
	return rows
}

// toPlace is what is done until the new manifest is in its place.
func (m *model) toPlace(put []api.Blob, rows []api.Row) api.Errno {
	for i, b := range put {
		if e := m.file(fmt.Sprintf("g%d-%d", m.n+1, i), b.Data); e != api.OK {
			return e
		}
	}
	s, _ := manifest.Print(m.n+1, rows)
	if e := m.file("manifest.new", s); e != api.OK {
		return e
	}
	if e := m.p.SyncDir(); e != api.OK {
		return e
	}
	return m.p.Rename("manifest.new", "manifest")
}

var name = regexp.MustCompile(`^[a-z0-9.-]{1,32}$`)

func (m *model) commit(put []api.Blob, gone []string) api.Errno {
	if m.n+1 > most {
		return api.ErrLong
	}
	for _, b := range put {
		if !name.MatchString(b.Name) {
			return api.ErrArg
		}
	}
	rows := m.changed(put, gone)
	if e := m.toPlace(put, rows); e != api.OK {
		m.sweep()
		return e
	}
	m.n, m.rows = m.n+1, rows
	if e := m.p.SyncDir(); e != api.OK {
		return e
	}
	return m.sweep()
}

func (m *model) holds() string {
	s := fmt.Sprint(m.n)
	for _, r := range m.rows {
		data, e := m.p.Read(r.File)
		if e != api.OK {
			data = fmt.Sprint("error ", e)
		}
		s += " " + r.Name + "=" + data
	}
	return s
}

// A dice throws numbers that are the same in each run.
type dice uint64

func (d *dice) below(n int) int {
	*d = *d*6364136223846793005 + 1442695040888963407
	return int(*d >> 33 % dice(n))
}

// change is what a commit is told, mostly of names that may be.
func (d *dice) change(most int) (put []api.Blob, gone []string) {
	names := []string{"a", "b", "c", "d.x", "manifest"}
	for range d.below(4) {
		put = append(put, api.Blob{Name: names[d.below(5)], Data: "0123456789"[:d.below(most)]})
	}
	for range d.below(3) {
		gone = append(gone, names[d.below(5)])
	}
	if d.below(20) == 0 {
		put = append(put, api.Blob{Name: "A"})
	}
	return put, gone
}

// A pair is a vault and its model, to which the same is done.
type pair struct {
	t    *testing.T
	p    *plate.Plate
	v    *vault.Vault
	m    *model
	done []string
}

// both notes what was done and how it ended, and fails unless both tell the same then.
func (b *pair) both(what string, got, want api.Errno) {
	b.done = append(b.done, fmt.Sprint(what, ": ", got))
	if got != want || told(b.p) != told(b.m.p) {
		b.t.Fatalf("%q: not %d and %q, but %d and %q", b.done, want, told(b.m.p), got, told(b.p))
	}
	if b.v != nil && holds(b.v) != b.m.holds() {
		b.t.Fatalf("%q: not %q, but %q", b.done, b.m.holds(), holds(b.v))
	}
}

func (b *pair) open() {
	v, e := vault.Open(b.p)
	if (v == nil) == (e == api.OK) {
		b.t.Fatalf("%q: a vault, or none, beside the error %d", b.done, e)
	}
	b.v = v
	b.both("Open", e, b.m.open())
}

func (b *pair) limit(n int) {
	b.p.Limit(n)
	b.m.p.Limit(n)
	b.both(fmt.Sprint("Limit ", n), api.OK, api.OK)
}

func (b *pair) crash(steps, bytes int) {
	b.p.Crash(steps, bytes)
	b.m.p.Crash(steps, bytes)
	b.both(fmt.Sprint("Crash ", steps, bytes), api.OK, api.OK)
}

// disturb makes a file, as no vault does, or one longer.
func (b *pair) disturb(d *dice) {
	names := append(b.p.List(), "odd", "manifest.new", fmt.Sprintf("g%d-%d", b.m.n+1, d.below(2)))
	name := names[d.below(len(names))]
	if d.below(2) == 0 {
		b.both("Create "+name, b.p.Create(name), b.m.p.Create(name))
	} else if d.below(4) == 0 {
		b.both("Write "+name, b.p.Write(name, "!"), b.m.p.Write(name, "!"))
	}
}

// next does something, of some hap.
func (b *pair) next(d *dice) {
	switch d.below(10) {
	case 0:
		b.limit(d.below(25) - 1)
	case 1:
		b.limit(-1)
	case 2:
		b.crash(d.below(12)-1, d.below(60)-1)
		if d.below(8) > 0 {
			b.open()
		}
	case 3:
		b.open()
	case 4:
		b.disturb(d)
	default:
		put, gone := d.change(11)
		b.both(fmt.Sprint("Commit ", put, gone), b.v.Commit(put, gone), b.m.commit(put, gone))
	}
}

func TestModel(t *testing.T) { // D1 to D3, in many orders
	d := dice(1)
	ends := map[string]int{}
	for range 4000 {
		room := 60 + d.below(300)
		b := &pair{t: t, p: newPlate(t, room), m: &model{p: newPlate(t, room)}}
		for b.open(); b.v != nil && len(b.done) < 40; {
			b.next(&d)
		}
		for _, what := range b.done {
			ends[strings.Split(what, " ")[0]+what[strings.LastIndex(what, ":"):]]++
		}
	}
	for _, what := range []string{"Open:: 0", "Open:: 13", "Open:: 30", "Commit: 0", "Commit: 1", "Commit: 11", "Commit: 12", "Commit: 13"} {
		if ends[what] < 50 {
			t.Errorf("%s: only %d times", what, ends[what])
		}
	}
	t.Log(ends)
}

// blobsOf are what a vault has, by name.
func blobsOf(t *testing.T, v *vault.Vault) map[string]string {
	t.Helper()
	m := map[string]string{}
	for _, name := range v.Names() {
		s, e := v.Get(name)
		is(t, "Get "+name, e, api.OK)
		m[name] = s
	}
	return m
}

// behind is what a commit is to make of the blobs.
func behind(old map[string]string, put []api.Blob, gone []string) map[string]string {
	m := maps.Clone(old)
	for _, name := range gone {
		delete(m, name)
	}
	for _, b := range put {
		m[b.Name] = b.Data
	}
	return m
}

// A story is a commit upon another one, and the error that it has where there is power enough.
type story struct {
	room  int
	first []api.Blob
	put   []api.Blob
	gone  []string
	e     api.Errno
}

// stories are some whose last commits differ in kind.
func stories() []story {
	return []story{
		{10000, nil, nil, nil, api.OK},
		{10000, nil, blobs("a", "x"), nil, api.OK},
		{10000, blobs("a", "old", "b", "B"), blobs("a", "new"), []string{"b"}, api.OK},
		{10000, blobs("a", "old", "b", "B"), nil, []string{"a", "b"}, api.OK},
		{10000, blobs("a", "same"), blobs("a", "same"), []string{"a"}, api.OK},
		{10000, blobs("a", "", "b", ""), blobs("c", "1", "c", "2", "a", "3"), []string{"b", "c"}, api.OK},
		{10000, blobs("a", "old"), blobs("a", "new", "A", "no name"), nil, api.ErrArg},
		{160, blobs("a", "old", "b", "B"), blobs("a", strings.Repeat("much", 30)), nil, api.ErrFull},              // a file's bytes
		{160, blobs("a", "old", "b", "B"), blobs("a", "", "c", strings.Repeat("much", 30)), nil, api.ErrFull},     // the second file's
		{160, blobs("a", "old", "b", "B"), blobs("a", strings.Repeat("so", 25)), []string{"b", "q"}, api.ErrFull}, // the manifest's
	}
}

// told does the story with so much power for the last commit, and answers the vault and that commit's error.
func (s story) told(t *testing.T, power int) (*plate.Plate, *vault.Vault, api.Errno) {
	t.Helper()
	p := newPlate(t, s.room)
	v := opened(t, p)
	v.Commit(s.first, nil)
	v.Commit(s.first, nil) // again, so that there is something to sweep
	p.Limit(power)
	return p, v, v.Commit(s.put, s.gone)
}

func TestCrashes(t *testing.T) { // D4: at each power, behind each crash
	for i, s := range stories() {
		_, v, _ := s.told(t, 0)
		n, old := v.Generation(), blobsOf(t, v)
		made := behind(old, s.put, s.gone)
		_, _, e := s.told(t, -1)
		is(t, fmt.Sprintf("story %d", i), e, s.e)
		for power := -1; power < 25; power++ {
			for steps := range 20 {
				for _, bytes := range []int{0, 1, 2, 5, 30, 1000} {
					what := fmt.Sprintf("story %d, power %d, crash %d %d", i, power, steps, bytes)
					p, _, e := s.told(t, power)
					p.Crash(steps, bytes)
					w := opened(t, p)
					got := blobsOf(t, w)
					switch {
					case w.Generation() == n+1 && maps.Equal(got, made):
					case w.Generation() == n && maps.Equal(got, old) && e != api.OK:
					default:
						t.Fatalf("%s: error %d, then %s", what, e, holds(w))
					}
					goesOn(t, what, p, w)
				}
			}
		}
	}
}

// goesOn fails unless commits are made as ever, and stay.
func goesOn(t *testing.T, what string, p *plate.Plate, v *vault.Vault) {
	t.Helper()
	n, want := v.Generation(), map[string]string{"z": "more"}
	is(t, what+", one more commit", v.Commit(blobs("z", "more"), v.Names()), api.OK)
	p.Crash(0, 0)
	w := opened(t, p)
	if w.Generation() != n+1 || !maps.Equal(blobsOf(t, w), want) || len(p.List()) != 2 {
		t.Fatalf("%s, one more commit: %s and %q", what, holds(w), told(p))
	}
}

func TestCrashesInTurn(t *testing.T) { // D4: of a vault that is opened again behind each, and in whose sweep the power may end, too
	d := dice(3)
	lost, kept := 0, 0
	for range 3000 {
		p := newPlate(t, 300+d.below(300))
		v := opened(t, p)
		n, old := 0, map[string]string{}
		for range 12 {
			put, gone := d.change(11)
			p.Limit(d.below(30) - 1)
			e := v.Commit(put, gone)
			p.Crash(d.below(20), d.below(60))
			p.Limit(d.below(4))
			if _, e := vault.Open(p); e != api.OK {
				is(t, "an opening that ends amid its sweep", e, api.ErrDead)
				p.Crash(d.below(20), d.below(60))
			}
			p.Limit(-1)
			v = opened(t, p)
			got, made := blobsOf(t, v), behind(old, put, gone)
			switch {
			case v.Generation() == n+1 && maps.Equal(got, made):
				kept++
			case v.Generation() == n && maps.Equal(got, old) && e != api.OK:
				lost++
			default:
				t.Fatalf("%v, %v and %v: error %d, then %s", old, put, gone, e, holds(v))
			}
			n, old = v.Generation(), got
		}
	}
	if lost < 1000 || kept < 1000 {
		t.Errorf("%d commits lost and %d kept: too few", lost, kept)
	}
}

func TestFilesAreNotUsedAgain(t *testing.T) { // D4
	d := dice(4)
	for range 300 {
		p := newPlate(t, 2000)
		v := opened(t, p)
		had := map[string]string{} // each file that a row had, at any time
		for range 30 {
			v.Commit(d.change(11))
			p.Limit(d.below(40) - 1)
			v.Commit(d.change(11))
			p.Crash(d.below(20), d.below(60))
			v = opened(t, p)
			for _, name := range p.List() {
				s, _ := p.Read(name)
				if before, ok := had[name]; ok && before != s && name != "manifest" {
					t.Fatalf("%s was %q, and is %q", name, before, s)
				}
				had[name] = s
			}
		}
	}
}
