package plate_test

import (
	"maps"
	"slices"
	"strconv"
	"strings"
	"testing"

	"broadsheet/api"
	"broadsheet/plate"
)

// A model is a plate word by word: it keeps the safe directory and the steps alone and goes over them at each call.
type model struct {
	room, power int
	files       []modelFile // by number; none is ever taken out
	safe        map[string]int
	steps       []modelStep
}

type modelFile struct{ safe, loose string }

// A modelStep lets the name get the file of that number, or go, if that is below 0.
type modelStep struct {
	name string
	file int
}

func newModel(room int) *model {
	return &model{room: room, power: -1, safe: map[string]int{}}
}

// directory is the safe one with the first n steps.
func (m *model) directory(n int) map[string]int {
	d := maps.Clone(m.safe)
	for _, s := range m.steps[:n] {
		if s.file < 0 {
			delete(d, s.name)
		} else {
			d[s.name] = s.file
		}
	}
	return d
}

func (m *model) now() map[string]int { return m.directory(len(m.steps)) }

func (m *model) has(name string) bool {
	_, ok := m.now()[name]
	return ok
}

func (m *model) size() int {
	n := 0
	for _, i := range m.now() {
		n += len(m.files[i].safe) + len(m.files[i].loose)
	}
	return n
}

// end is a change's end: the first error that there is, or the change.
func (m *model) end(e api.Errno, change func()) api.Errno {
	if e != api.OK {
		return e
	}
	if m.power == 0 {
		return api.ErrDead
	}
	if m.power > 0 {
		m.power--
	}
	change()
	return api.OK
}

func modelName(s string) bool {
	return len(s) >= 1 && len(s) <= 32 && strings.Trim(s, "abcdefghijklmnopqrstuvwxyz0123456789.-") == ""
}

// first is the first error whose condition holds.
func first(conditions []bool, errors ...api.Errno) api.Errno {
	if i := slices.Index(conditions, true); i >= 0 {
		return errors[i]
	}
	return api.OK
}

func (m *model) create(name string) api.Errno {
	e := first([]bool{!modelName(name), m.has(name), len(m.now()) >= 200}, api.ErrArg, api.ErrTwice, api.ErrFull)
	return m.end(e, func() {
		m.steps = append(m.steps, modelStep{name, len(m.files)})
		m.files = append(m.files, modelFile{})
	})
}

func (m *model) write(name, s string) api.Errno {
	e := first([]bool{!m.has(name), m.size()+len(s) > m.room}, api.ErrNone, api.ErrFull)
	return m.end(e, func() { m.files[m.now()[name]].loose += s })
}

func (m *model) sync(name string) api.Errno {
	return m.end(first([]bool{!m.has(name)}, api.ErrNone), func() {
		f := &m.files[m.now()[name]]
		f.safe, f.loose = f.safe+f.loose, ""
	})
}

func (m *model) rename(from, to string) api.Errno {
	e := first([]bool{!m.has(from), !modelName(to)}, api.ErrNone, api.ErrArg)
	return m.end(e, func() {
		if from != to {
			m.steps = append(m.steps, modelStep{to, m.now()[from]}, modelStep{from, -1})
		}
	})
}

func (m *model) remove(name string) api.Errno {
	return m.end(first([]bool{!m.has(name)}, api.ErrNone), func() {
		m.steps = append(m.steps, modelStep{name, -1})
	})
}

func (m *model) syncDir() api.Errno {
	return m.end(api.OK, func() { m.safe, m.steps = m.now(), nil })
}

func (m *model) crash(steps, bytes int) {
	m.safe, m.steps = m.directory(max(0, min(steps, len(m.steps)))), nil
	for i, f := range m.files {
		m.files[i] = modelFile{safe: f.safe + f.loose[:max(0, min(bytes, len(f.loose)))]}
	}
	m.power = -1
}

func (m *model) told() string {
	var parts []string
	d := m.now()
	for _, name := range slices.Sorted(maps.Keys(d)) {
		parts = append(parts, name+"="+m.files[d[name]].safe+m.files[d[name]].loose)
	}
	return strings.Join(parts, " ")
}

// A dice throws numbers that are the same in each run.
type dice uint64

func (d *dice) below(n int) int {
	*d = *d*6364136223846793005 + 1442695040888963407
	return int(*d >> 33 % dice(n))
}

func (d *dice) name() string { return []string{"a", "b", "c", "d.new", "A"}[d.below(5)] }

// both does one thing, of some hap, to a plate and to its model, and answers what it was.
func both(d *dice, p *plate.Plate, m *model) (what string, got, want api.Errno) {
	name, other, n, k := d.name(), d.name(), d.below(6)-1, d.below(6)-1
	switch d.below(12) {
	case 0, 1:
		return "Create " + name, p.Create(name), m.create(name)
	case 2, 3, 4:
		s := "12345"[:d.below(6)]
		return "Write " + name + " " + s, p.Write(name, s), m.write(name, s)
	case 5:
		return "Sync " + name, p.Sync(name), m.sync(name)
	case 6, 7:
		return "Rename " + name + " " + other, p.Rename(name, other), m.rename(name, other)
	case 8:
		return "Remove " + name, p.Remove(name), m.remove(name)
	case 9:
		return "SyncDir", p.SyncDir(), m.syncDir()
	case 10:
		p.Limit(3 * n)
		m.power = 3 * n
		return "Limit " + strconv.Itoa(3*n), api.OK, api.OK
	}
	p.Crash(n, k)
	m.crash(n, k)
	return "Crash " + strconv.Itoa(n) + " " + strconv.Itoa(k), api.OK, api.OK
}

func TestModel(t *testing.T) { // A1 to A9, in many orders
	d := dice(1)
	for range 3000 {
		room := d.below(30)
		p, m := newPlate(t, room), newModel(room)
		var done []string
		for range 40 {
			what, got, want := both(&d, p, m)
			done = append(done, what)
			if got != want || told(t, p) != m.told() {
				t.Fatalf("%v: %d and %q, not %d and %q", done, got, told(t, p), want, m.told())
			}
		}
	}
}

func TestSyncedStays(t *testing.T) { // A10
	d := dice(2)
	for range 1000 {
		p := newPlate(t, 50)
		m := newModel(50)
		for range d.below(20) {
			both(&d, p, m)
		}
		p.Limit(-1)
		m.power = -1
		p.Create("kept") // no other thing has this name
		p.Write("kept", "abc"[:d.below(4)])
		want, _ := p.Read("kept")
		is(t, "Sync", p.Sync("kept"), api.OK)
		is(t, "SyncDir", p.SyncDir(), api.OK)
		for range 30 {
			both(&d, p, m)
			if got, e := p.Read("kept"); got != want || e != api.OK {
				t.Fatalf("%q became %q, %d", want, got, e)
			}
		}
	}
}

func TestCrashOfWhatIsSafe(t *testing.T) { // A10
	d := dice(3)
	for range 1000 {
		p, m := newPlate(t, 50), newModel(50)
		for range d.below(40) {
			both(&d, p, m)
		}
		p.Limit(-1)
		for _, name := range p.List() {
			is(t, "Sync", p.Sync(name), api.OK)
		}
		is(t, "SyncDir", p.SyncDir(), api.OK)
		want := told(t, p)
		for range 5 {
			p.Crash(d.below(9)-1, d.below(9)-1)
			tells(t, p, want)
		}
	}
}
