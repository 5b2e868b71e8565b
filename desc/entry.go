package desc

import (
	"slices"

	"almshouse/api"
	"almshouse/pipe"
)

const none = 0 // the key of no entry

// number is a descriptor. One that is free has no entry's key, and is not marked: it is the zero value.
type number struct {
	key    int
	marked bool // Exec closes it
}

func (x number) isFree() bool { return x.key == none }

// entry is what is open: a file, with a place in it, or an end of a pipe.
type entry struct {
	kind  int // File, From, Into
	prot  int // what it may be used for
	had   int // how many numbers, of all tables, are of it: at least one
	node  int // a file's
	place int // a file's: from 0 to MaxFile
	pipe  *pipe.Pipe
}

func (e *entry) isFile() bool { return e.kind == api.File }

// isUse tells whether something may be opened for that: Reads, Writes, or both.
func isUse(prot int) bool { return prot >= api.Reads && prot <= api.Reads+api.Writes }

// at is a number of a table: one that there cannot be (of no table: any) is free.
func (t *Table) at(n int) number {
	if t == nil || n < 0 || n >= len(t.numbers) {
		return number{}
	}
	return t.numbers[n]
}

// least is the least number that is free, if one is.
func (t *Table) least() (int, bool) {
	n := slices.IndexFunc(t.numbers[:], func(x number) bool { return x.isFree() })
	return n, n >= 0
}

// hasRoom tells whether so many numbers are free, and so many entries more may be. (Where there is no table, or New did not make the files, there is none.)
func (f *Files) hasRoom(t *Table, many int) bool {
	if t == nil || f == nil || f.open == nil {
		return false
	}
	return t.Used()+many <= api.MaxFds && f.Open()+many <= api.MaxOpen
}

// find is the entry of a number. ErrMissing: it is free.
func (f *Files) find(t *Table, n int) (*entry, error) {
	if f == nil {
		return nil, api.ErrMissing
	}
	e := f.open[t.at(n).key]
	if e == nil {
		return nil, api.ErrMissing
	}
	return e, nil
}

// usable is the entry of a number that may be used so. ErrMissing, ErrFalse.
func (f *Files) usable(t *Table, n, use int) (*entry, error) {
	e, err := f.find(t, n)
	if err != nil {
		return nil, err
	}
	if e.prot&use == 0 {
		return nil, api.ErrFalse
	}
	return e, nil
}

// node is where a path leads; a file is made, if nothing is there (makes). Find's errors, or Create's.
func (f *Files) node(path string, makes bool) (int, error) {
	n, err := f.tree.Find(path)
	if makes && api.Tell(err) == api.ErrMissing {
		return f.tree.Create(path)
	}
	return n, err
}

// add opens an entry, and lets the least free number of a table that has one be of it: which.
func (f *Files) add(t *Table, e *entry) int {
	key := none + 1
	for f.open[key] != nil {
		key++
	}
	f.open[key] = e
	n, _ := t.least()
	f.give(t, n, key)
	return n
}

// addEnd opens an end of a pipe.
func (f *Files) addEnd(t *Table, p *pipe.Pipe, end, prot int) int {
	_ = p.Open(end) // it is one
	return f.add(t, &entry{kind: end, prot: prot, pipe: p})
}

// give lets a number be of an entry that is there. Who overwrites one that was of another entry leaves that then, not before: it may be the same.
func (f *Files) give(t *Table, n, key int) {
	t.numbers[n] = number{key: key}
	f.open[key].had++
}

// free lets a number be free that was not.
func (f *Files) free(t *Table, n int) {
	was := t.numbers[n].key
	t.numbers[n] = number{}
	f.leave(was)
}

// leave takes an entry, if there is one, from one number: with the last one it goes.
func (f *Files) leave(key int) {
	if f == nil || f.open[key] == nil {
		return
	}
	e := f.open[key]
	e.had--
	if e.had == 0 {
		delete(f.open, key)
		f.shut(e)
	}
}

// shut lets go of what an entry that goes was. (It held, or opened it, once: neither is refused.)
func (f *Files) shut(e *entry) {
	if e.isFile() {
		_ = f.tree.Drop(e.node)
		return
	}
	_ = e.pipe.Close(e.kind)
}
