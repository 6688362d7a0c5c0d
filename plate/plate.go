// Package plate is layer 1, a disk with power and crashes: see shared/doc/01-plate.md.
package plate

import (
	"maps"
	"slices"

	"broadsheet/api"
)

const endless = -1

// Plate is a disk whose loose bytes and open steps a crash may take.
type Plate struct {
	room  int
	power int       // how many more things can be done; below 0: endless
	safe  directory // what a crash leaves of the directory, whatever it takes
	now   directory // safe with all steps: kept beside them, for they may be many
	steps []step    // since safe, in order
}

// New answers an empty plate with room for so many bytes.
func New(room int) (*Plate, api.Errno) {
	if room < 0 || room > api.MaxDisk {
		return nil, api.ErrArg
	}
	return &Plate{room: room, power: endless, safe: directory{}, now: directory{}}, api.OK
}

// Create gives the name a new file without bytes.
func (p *Plate) Create(name string) (e api.Errno) {
	defer func() { e = outcome(recover(), e) }()
	if !isName(name) {
		return api.ErrArg
	}
	if p.now[name] != nil {
		return api.ErrTwice
	}
	if len(p.now) >= api.MaxFiles { // crashes amid renames may have left more
		return api.ErrFull
	}
	p.spend()
	p.do(step{name, &file{}})
	return api.OK
}

// Write lays s behind the bytes of the file, loose.
func (p *Plate) Write(name, s string) (e api.Errno) {
	defer func() { e = outcome(recover(), e) }()
	f := p.now[name]
	if f == nil {
		return api.ErrNone
	}
	if p.now.size()+len(s) > p.room {
		return api.ErrFull
	}
	p.spend()
	f.data = append(f.data, s...)
	return api.OK
}

// Sync makes all bytes of the file safe.
func (p *Plate) Sync(name string) (e api.Errno) {
	defer func() { e = outcome(recover(), e) }()
	f := p.now[name]
	if f == nil {
		return api.ErrNone
	}
	p.spend()
	f.safe = len(f.data)
	return api.OK
}

// Rename gives the file that from has to the other name; from goes.
func (p *Plate) Rename(from, to string) (e api.Errno) {
	defer func() { e = outcome(recover(), e) }()
	f := p.now[from]
	if f == nil {
		return api.ErrNone
	}
	if !isName(to) {
		return api.ErrArg
	}
	p.spend()
	if from != to {
		p.do(step{to, f}, step{from, nil})
	}
	return api.OK
}

// Remove lets the name go.
func (p *Plate) Remove(name string) (e api.Errno) {
	defer func() { e = outcome(recover(), e) }()
	if p.now[name] == nil {
		return api.ErrNone
	}
	p.spend()
	p.do(step{name, nil})
	return api.OK
}

// SyncDir makes the directory with all steps the safe one.
func (p *Plate) SyncDir() (e api.Errno) {
	defer func() { e = outcome(recover(), e) }()
	p.spend()
	p.settle(len(p.steps))
	return api.OK
}

// Read answers the file's bytes, safe and loose.
func (p *Plate) Read(name string) (string, api.Errno) {
	f := p.now[name]
	if f == nil {
		return "", api.ErrNone
	}
	return string(f.data), api.OK
}

// List answers the names of all files, rising.
func (p *Plate) List() []string {
	return slices.Sorted(maps.Keys(p.now))
}

// Limit sets how many more things can be done; endless, if n is below 0.
func (p *Plate) Limit(n int) {
	p.power = max(n, endless)
}

// Crash keeps the first open steps and of each file the first loose bytes, as many as it is told; no others.
func (p *Plate) Crash(steps, bytes int) {
	p.settle(within(steps, len(p.steps)))
	p.now = maps.Clone(p.safe)
	for _, f := range p.now {
		f.crash(bytes)
	}
	p.power = endless
}

// do is what happens to the directory as it is now, open to a crash.
func (p *Plate) do(steps ...step) {
	p.now.take(steps...)
	p.steps = append(p.steps, steps...)
}

// settle makes the first n steps safe and drops the others.
func (p *Plate) settle(n int) {
	p.safe.take(p.steps[:n]...)
	p.steps = nil // not cut to length 0: its files, if they are lost, shall not be held
}

// within is n, but neither below 0 nor above most.
func within(n, most int) int {
	return max(0, min(n, most))
}
