package desc_test

import (
	"fmt"
	"slices"
	"strings"
	"testing"

	"almshouse/api"
	"almshouse/desc"
	"almshouse/tree"
)

// die has numbers that look drawn, the same each time.
type die uint64

func (d *die) below(n int) int {
	*d = *d*6364136223846793005 + 1442695040888963407
	return int(uint64(*d>>33) % uint64(n))
}

type file struct{ text string }

type stream struct{ text string }

// thing is what is open: a file, or an end of a stream.
type thing struct {
	file   *file
	stream *stream
	kind   int
	prot   int
	place  int
}

// row is a table.
type row struct {
	things [api.MaxFds]*thing
	marked [api.MaxFds]bool
}

// book is all by the document's words. Nothing is counted: what is open, and which nodes there are, is looked for in the rows each time.
type book struct {
	paths map[string]*file // nil: a directory
	rows  []*row
}

func newBook() *book {
	return &book{paths: map[string]*file{"/": nil}}
}

func (b *book) open() map[*thing]bool {
	all := map[*thing]bool{}
	for _, r := range b.rows {
		for _, x := range r.things {
			if x != nil {
				all[x] = true
			}
		}
	}
	return all
}

func (b *book) nodes() int {
	files, dirs := map[*file]bool{}, 0
	for _, x := range b.paths {
		if x == nil {
			dirs++
		} else {
			files[x] = true
		}
	}
	for x := range b.open() {
		if x.file != nil {
			files[x.file] = true
		}
	}
	return dirs + len(files)
}

// isOpen tells whether such an end of a stream is.
func (b *book) isOpen(s *stream, kind int) bool {
	for x := range b.open() {
		if x.stream == s && x.kind == kind {
			return true
		}
	}
	return false
}

// walkNone are no paths.
var walkNone = []string{"", "a", "/a/", "/.", "/d//a", "/abcdefghijklm"}

// find is a path's file (nil: a directory).
func (b *book) find(path string) (*file, api.Errno) {
	if slices.Contains(walkNone, path) {
		return nil, api.ErrArg
	}
	if x, ok := b.paths[path]; ok {
		return x, api.OK
	}
	for i := 1; i < len(path); i++ {
		if path[i] != '/' {
			continue
		}
		x, ok := b.paths[path[:i]]
		if !ok {
			return nil, api.ErrMissing
		}
		if x != nil {
			return nil, api.ErrState
		}
	}
	return nil, api.ErrMissing
}

// hasPlace tells whether a file could be made at a path at which there is none.
func (b *book) hasPlace(path string) bool {
	above := path[:strings.LastIndex(path, "/")]
	x, ok := b.paths[above]
	return above == "" || ok && x == nil
}

func (r *row) free() []int {
	var l []int
	for n, x := range r.things {
		if x == nil {
			l = append(l, n)
		}
	}
	return l
}

func (r *row) get(n int) (*thing, api.Errno) {
	if n < 0 || n >= len(r.things) || r.things[n] == nil {
		return nil, api.ErrMissing
	}
	return r.things[n], api.OK
}

func (r *row) set(n int, x *thing) {
	r.things[n], r.marked[n] = x, false
}

func (b *book) opened(r *row, path string, prot int, makes bool) (int, api.Errno) {
	if prot != api.Reads && prot != api.Writes && prot != api.Reads+api.Writes {
		return 0, api.ErrArg
	}
	free := r.free()
	if len(free) == 0 || len(b.open()) >= api.MaxOpen {
		return 0, api.ErrFull
	}
	x, e := b.find(path)
	switch {
	case e == api.ErrMissing && makes && !b.hasPlace(path):
		return 0, api.ErrMissing
	case e == api.ErrMissing && makes && b.nodes() >= api.MaxNodes:
		return 0, api.ErrFull
	case e == api.ErrMissing && makes:
		x = &file{}
		b.paths[path] = x
	case e != api.OK:
		return 0, e
	case x == nil:
		return 0, api.ErrState
	}
	r.set(free[0], &thing{file: x, kind: api.File, prot: prot})
	return free[0], api.OK
}

func (b *book) piped(r *row) (int, int, api.Errno) {
	free := r.free()
	if len(free) < 2 || len(b.open()) > api.MaxOpen-2 {
		return 0, 0, api.ErrFull
	}
	s := &stream{}
	r.set(free[0], &thing{stream: s, kind: api.From, prot: api.Reads})
	r.set(free[1], &thing{stream: s, kind: api.Into, prot: api.Writes})
	return free[0], free[1], api.OK
}

func (r *row) dupped(n int) (int, api.Errno) {
	x, e := r.get(n)
	if e != api.OK {
		return 0, e
	}
	free := r.free()
	if len(free) == 0 {
		return 0, api.ErrFull
	}
	r.set(free[0], x)
	return free[0], api.OK
}

func (r *row) dupped2(n, to int) api.Errno {
	x, e := r.get(n)
	switch {
	case e != api.OK:
		return e
	case to < 0 || to >= api.MaxFds:
		return api.ErrRange
	case n != to:
		r.set(to, x)
	}
	return api.OK
}

func (r *row) mark(n int, closes bool) api.Errno {
	_, e := r.get(n)
	if e == api.OK {
		r.marked[n] = closes
	}
	return e
}

func (r *row) closed(n int) api.Errno {
	_, e := r.get(n)
	if e == api.OK {
		r.set(n, nil)
	}
	return e
}

func (b *book) read(r *row, n, many int) (string, api.Errno) {
	x, e := r.get(n)
	switch {
	case e != api.OK:
		return "", e
	case x.prot&api.Reads == 0:
		return "", api.ErrFalse
	case many < 0:
		return "", api.ErrRange
	case x.file != nil:
		rest := x.file.text[min(x.place, len(x.file.text)):]
		rest = rest[:min(many, len(rest))]
		x.place += len(rest)
		return rest, api.OK
	case many == 0:
		return "", api.OK
	case x.stream.text == "" && b.isOpen(x.stream, api.Into):
		return "", api.ErrNone
	}
	s := x.stream.text[:min(many, len(x.stream.text))]
	x.stream.text = x.stream.text[len(s):]
	return s, api.OK
}

func (b *book) wrote(r *row, n int, s string, limit int) (int, api.Errno) {
	x, e := r.get(n)
	switch {
	case e != api.OK:
		return 0, e
	case x.prot&api.Writes == 0:
		return 0, api.ErrFalse
	case x.file != nil && s != "" && (x.place+len(s) > limit || x.place+len(s) > api.MaxFile):
		return 0, api.ErrLimit
	case x.file != nil:
		x.file.text = written(x.file.text, x.place, s)
		x.place += len(s)
		return len(s), api.OK
	case !b.isOpen(x.stream, api.From):
		return 0, api.ErrDevice
	case s == "":
		return 0, api.OK
	case len(x.stream.text) == api.PipeBytes:
		return 0, api.ErrFull
	}
	many := min(len(s), api.PipeBytes-len(x.stream.text))
	x.stream.text += s[:many]
	return many, api.OK
}

func (r *row) sought(n, at int) api.Errno {
	x, e := r.get(n)
	switch {
	case e != api.OK:
		return e
	case x.file == nil:
		return api.ErrState
	case at < 0 || at > api.MaxFile:
		return api.ErrRange
	}
	x.place = at
	return api.OK
}

func (r *row) freed(marked bool) {
	for n := range r.things {
		if !marked || r.marked[n] {
			r.set(n, nil)
		}
	}
}

// walk is a book, and what is held against it.
type walk struct {
	*book
	*world
	tables []*desc.Table
	opens  int // how often something is opened
}

func newWalk(t *testing.T, d *die) *walk {
	t.Helper()
	r := tree.New()
	f, err := desc.New(r)
	done(t, "New", err)
	k := &walk{book: newBook(), world: &world{r: r, f: f}, opens: 2 + d.below(2)*d.below(12)}
	dirs := 1 + d.below(2)*d.below(api.MaxNodes-5)
	for i := range dirs {
		path := fmt.Sprint("/d", i)
		_, err := r.Mkdir(path)
		done(t, "Mkdir", err)
		k.paths[path] = nil
	}
	k.add(&desc.Table{}, &row{})
	return k
}

func (k *walk) add(x *desc.Table, r *row) {
	k.tables, k.rows = append(k.tables, x), append(k.rows, r)
}

// path is drawn: now and then one that is none, or leads nowhere.
func (d *die) path() string {
	if d.below(12) == 0 {
		return append([]string{"/", "/d0", "/a/x", "/no/x", "/d0/a/x"}, walkNone...)[d.below(5+len(walkNone))]
	}
	return []string{"/", "/d0/"}[d.below(2)] + string([]byte{byte('a' + d.below(5))})
}

// fd is a number, now and then one that there cannot be.
func (d *die) fd() int {
	return d.below(api.MaxFds) + d.below(25)/24*(d.below(3*api.MaxFds)-api.MaxFds)
}

func (d *die) size() int {
	return d.below(14) - d.below(20)/19 + d.below(10)/9*d.below(api.MaxFile+5)
}

// opening asks what gives numbers.
func (k *walk) opening(t *testing.T, d *die, x *desc.Table, r *row) {
	t.Helper()
	n, to := d.fd(), d.fd()
	switch do := d.below(10); {
	case do < 5:
		path, prot, makes := d.path(), 1+d.below(3)-d.below(20)/19*4, d.below(3) > 0
		got, err := k.f.File(x, path, prot, makes)
		want, e := k.opened(r, path, prot, makes)
		wrong(t, fmt.Sprintf("File(%q, %d, %v)", path, prot, makes), err, e)
		is(t, "File", got, want)
	case do < 7:
		from, into, err := k.f.Pipe(x)
		wantFrom, wantInto, e := k.piped(r)
		wrong(t, "Pipe", err, e)
		is(t, "Pipe", from, wantFrom)
		is(t, "Pipe", into, wantInto)
	case do < 8:
		got, err := k.f.Dup(x, n)
		want, e := r.dupped(n)
		wrong(t, fmt.Sprintf("Dup(%d)", n), err, e)
		is(t, "Dup", got, want)
	case do < 9:
		wrong(t, fmt.Sprintf("Dup2(%d, %d)", n, to), k.f.Dup2(x, n, to), r.dupped2(n, to))
	default:
		k.another(d, x, r)
	}
}

func is(t *testing.T, what string, got, want int) {
	t.Helper()
	if got != want {
		t.Errorf("%s: %d: want %d", what, got, want)
	}
}

// another is a new table, most often a fork; so many that all may be open, and no more.
func (k *walk) another(d *die, x *desc.Table, r *row) {
	switch {
	case len(k.tables) > api.MaxOpen/api.MaxFds+2:
	case d.below(3) == 0:
		k.add(&desc.Table{}, &row{})
	default:
		fork := *r
		k.add(k.f.Fork(x), &fork)
	}
}

// using asks what reads, writes, and seeks.
func (k *walk) using(t *testing.T, d *die, x *desc.Table, r *row) {
	t.Helper()
	n, size := d.fd(), d.size()
	switch do := d.below(8); {
	case do < 3:
		s, err := k.f.Read(x, n, size)
		want, e := k.read(r, n, size)
		wrong(t, fmt.Sprintf("Read(%d, %d)", n, size), err, e)
		if s != want {
			t.Errorf("Read(%d, %d): %q: want %q", n, size, s, want)
		}
	case do < 7:
		s, limit := line(d.below(256), max(0, d.size())), d.size()+d.below(2)*api.MaxFile
		many, err := k.f.Write(x, n, s, limit)
		want, e := k.wrote(r, n, s, limit)
		wrong(t, fmt.Sprintf("Write(%d, %q, %d)", n, s, limit), err, e)
		is(t, "Write", many, want)
	default:
		wrong(t, fmt.Sprintf("Seek(%d, %d)", n, size), k.f.Seek(x, n, size), r.sought(n, size))
	}
}

// closing asks what takes numbers, names or bytes away.
func (k *walk) closing(t *testing.T, d *die, x *desc.Table, r *row) {
	t.Helper()
	n, closes := d.fd(), d.below(2) == 0
	switch do := d.below(24); {
	case do < 10:
		wrong(t, fmt.Sprintf("Close(%d)", n), k.f.Close(x, n), r.closed(n))
	case do < 17:
		wrong(t, fmt.Sprintf("Mark(%d, %v)", n, closes), k.f.Mark(x, n, closes), r.mark(n, closes))
	case do < 19:
		k.f.Exec(x)
		r.freed(true)
	case do < 20:
		k.f.Clear(x)
		r.freed(false)
	default:
		path := d.path()
		x, e := k.find(path)
		if e != api.OK || x == nil {
			return
		}
		if closes {
			done(t, "Unlink", k.r.Unlink(path))
			delete(k.paths, path)
			return
		}
		node, err := k.r.Find(path)
		done(t, "Find", err)
		size := max(0, d.size())
		done(t, "Cut", k.r.Cut(node, size))
		x.text = x.text[:min(size, len(x.text))]
	}
}

// same holds what can be seen against the book.
func (k *walk) same(t *testing.T) {
	t.Helper()
	k.counts(t, "on a walk", len(k.open()), k.nodes())
	for i, x := range k.tables {
		var used []int
		for n, y := range k.rows[i].things {
			if y != nil {
				used = append(used, n)
			}
		}
		k.has(t, fmt.Sprint("table ", i), x, used...)
	}
}

// wholly holds also what is MARKED, and the bytes of files that have names, against the book.
func (k *walk) wholly(t *testing.T) {
	t.Helper()
	for i, x := range k.tables {
		var marked []int
		for n, yes := range k.rows[i].marked {
			if yes {
				marked = append(marked, n)
			}
		}
		if l := k.marked(x); !slices.Equal(l, marked) {
			t.Errorf("table %d: %v are MARKED: want %v", i, l, marked)
		}
	}
	for path, x := range k.paths {
		if x != nil {
			node, err := k.r.Find(path)
			done(t, "Find", err)
			k.holds(t, node, x.text)
		}
	}
}

// Long walks, held against books. Some of them come to as many entries as there may be, and to a full tree.
func TestWalksAreAsTheDocumentSays(t *testing.T) {
	d := die(8)
	fullest, entries := 0, 0
	for i := range 200 {
		k := newWalk(t, &d)
		for step := range 300 {
			at := d.below(len(k.tables))
			switch do := d.below(10 + k.opens); {
			case do < 6:
				k.using(t, &d, k.tables[at], k.rows[at])
			case do < 10:
				k.closing(t, &d, k.tables[at], k.rows[at])
			default:
				k.opening(t, &d, k.tables[at], k.rows[at])
			}
			k.same(t)
			if step%30 == 0 {
				k.wholly(t)
			}
			fullest, entries = max(fullest, k.nodes()), max(entries, len(k.open()))
			if t.Failed() {
				t.Fatalf("walk %d, step %d, table %d", i, step, at)
			}
		}
		k.wholly(t)
		for at, x := range k.tables {
			k.f.Clear(x)
			k.rows[at].freed(false)
			k.same(t)
		}
	}
	if fullest != api.MaxNodes || entries != api.MaxOpen {
		t.Errorf("no walk came to a full tree, or to all that may be open: %d nodes, %d entries at most", fullest, entries)
	}
}
