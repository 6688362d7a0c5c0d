package vault

import (
	"maps"
	"slices"
	"strconv"
	"strings"

	"broadsheet/adler"
	"broadsheet/api"
)

// A step is one of the things that are done to the plate in turn.
type step func() api.Errno

// inTurn takes the steps of each list, list by list. It ends at the first error, and answers it.
func inTurn(lists ...[]step) (e api.Errno) {
all:
	for _, steps := range lists {
		for _, take := range steps {
			if e = take(); e != api.OK {
				break all
			}
		}
	}
	return e
}

// steps are those of a commit until its manifest is in its place: a list for each file, and one for the directory.
func (v *Vault) steps(n int, put []api.Blob, told func() (string, api.Errno)) [][]step {
	var lists [][]step
	for i, b := range put {
		data := func() (string, api.Errno) { return b.Data, api.OK }
		lists = append(lists, v.making(fileOf(n, i), data))
	}
	lists = append(lists, v.making(coming, told))
	place := func() api.Errno { return v.Rename(coming, current) }
	return append(lists, []step{v.SyncDir, place})
}

// making are the steps that make a file. What is to be in it is asked when that step's turn comes.
func (v *Vault) making(name string, data func() (string, api.Errno)) []step {
	return []step{
		func() api.Errno { return v.Create(name) },
		func() api.Errno {
			s, e := data()
			if e != api.OK {
				return e
			}
			return v.Write(name, s)
		},
		func() api.Errno { return v.Sync(name) },
	}
}

// fileOf is the name of the file for the i-th blob that makes the generation n.
func fileOf(n, i int) string {
	return "g" + strconv.Itoa(n) + "-" + strconv.Itoa(i)
}

// rowsBehind are the rows that there are behind a commit.
func (v *Vault) rowsBehind(n int, put []api.Blob, gone []string) []api.Row {
	rows := map[string]api.Row{}
	for _, r := range v.rows {
		rows[r.Name] = r
	}
	for _, name := range gone {
		delete(rows, name)
	}
	for i, b := range put {
		rows[b.Name] = api.Row{Name: b.Name, File: fileOf(n, i), Size: len(b.Data), Sum: adler.Sum(b.Data)}
	}
	return slices.SortedFunc(maps.Values(rows), func(a, b api.Row) int {
		return strings.Compare(a.Name, b.Name)
	})
}

// sweep removes, name by name, the files that are no part of the vault.
func (v *Vault) sweep() api.Errno {
	kept := v.files()
	var steps []step
	for _, name := range v.List() {
		if _, ok := kept[name]; !ok {
			steps = append(steps, func() api.Errno { return v.Remove(name) })
		}
	}
	if len(steps) > 0 {
		steps = append(steps, v.SyncDir)
	}
	return inTurn(steps)
}

// files are the names of the files that are part of the vault.
func (v *Vault) files() map[string]struct{} {
	names := map[string]struct{}{}
	if v.generation > 0 {
		names[current] = struct{}{}
	}
	for _, r := range v.rows {
		names[r.File] = struct{}{}
	}
	return names
}
