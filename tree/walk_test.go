package tree_test

import (
	"fmt"
	"slices"
	"strings"
	"testing"

	"almshouse/api"
	"almshouse/tree"
)

// die has numbers that look drawn, the same each time.
type die uint64

func (d *die) below(n int) int {
	*d = *d*6364136223846793005 + 1442695040888963407
	return int(uint64(*d>>33) % uint64(n))
}

// thing is a node by the document's words.
type thing struct {
	dir   bool
	text  string
	holds int
}

// book is a tree by the document's words: whole paths lead to numbers ("" is the directory of all); nothing is kept of how many do.
type book struct {
	paths  map[string]int
	things map[int]*thing
}

func newBook() *book {
	return &book{paths: map[string]int{"": 0}, things: map[int]*thing{0: {dir: true}}}
}

// at is where a path leads. What is ahead of each / but the first one must be a directory.
func (b *book) at(path string) (int, api.Errno) {
	if !isPath(path) {
		return 0, api.ErrArg
	}
	if path == "/" {
		return 0, api.OK
	}
	for i := 1; i <= len(path); i++ {
		if i < len(path) && path[i] != '/' {
			continue
		}
		n, ok := b.paths[path[:i]]
		switch {
		case !ok:
			return 0, api.ErrMissing
		case i == len(path):
			return n, api.OK
		case !b.things[n].dir:
			return 0, api.ErrState
		}
	}
	return 0, api.ErrArg
}

// place tells what is wrong with a path's, and whether something is there.
func (b *book) place(path string) (bool, api.Errno) {
	if !isPath(path) || path == "/" {
		return false, api.ErrArg
	}
	above := path[:strings.LastIndex(path, "/")]
	if above != "" {
		n, e := b.at(above)
		if e != api.OK {
			return false, e
		}
		if !b.things[n].dir {
			return false, api.ErrState
		}
	}
	_, ok := b.paths[path]
	return ok, api.OK
}

// under are the names in a directory, in order.
func (b *book) under(path string) []string {
	var names []string
	for p := range b.paths {
		name, ok := strings.CutPrefix(p, strings.TrimSuffix(path, "/")+"/")
		if ok && !strings.Contains(name, "/") {
			names = append(names, name)
		}
	}
	slices.Sort(names)
	return names
}

// sweep takes away what no path leads to, and nobody holds.
func (b *book) sweep() {
	for n, x := range b.things {
		led := false
		for _, m := range b.paths {
			led = led || m == n
		}
		if !led && x.holds == 0 {
			delete(b.things, n)
		}
	}
}

func (b *book) made(path string, x thing) (int, api.Errno) {
	there, e := b.place(path)
	switch {
	case e != api.OK:
		return 0, e
	case there:
		return 0, api.ErrTwice
	case len(b.things) >= api.MaxNodes:
		return 0, api.ErrFull
	}
	for n := range api.MaxNodes {
		if b.things[n] == nil {
			b.things[n], b.paths[path] = &x, n
			return n, api.OK
		}
	}
	return 0, api.ErrFull
}

func (b *book) linked(old, path string) api.Errno {
	n, e := b.at(old)
	if e != api.OK {
		return e
	}
	if b.things[n].dir {
		return api.ErrState
	}
	there, e := b.place(path)
	switch {
	case e != api.OK:
		return e
	case there:
		return api.ErrTwice
	}
	b.paths[path] = n
	return api.OK
}

func (b *book) unlinked(path string) api.Errno {
	there, e := b.place(path)
	switch {
	case e != api.OK:
		return e
	case !there:
		return api.ErrMissing
	case len(b.under(path)) > 0:
		return api.ErrState
	}
	delete(b.paths, path)
	b.sweep()
	return api.OK
}

func (b *book) renamed(old, path string) api.Errno {
	there, e := b.place(old)
	switch {
	case e != api.OK:
		return e
	case !there:
		return api.ErrMissing
	}
	there, e = b.place(path)
	switch {
	case e != api.OK:
		return e
	case there:
		return api.ErrTwice
	case strings.HasPrefix(path, old+"/"):
		return api.ErrState
	}
	moved := map[string]int{}
	for p, n := range b.paths {
		if p == old || strings.HasPrefix(p, old+"/") {
			p = path + p[len(old):]
		}
		moved[p] = n
	}
	b.paths = moved
	return api.OK
}

func (b *book) listed(path string) ([]string, api.Errno) {
	n, e := b.at(path)
	switch {
	case e != api.OK:
		return nil, e
	case !b.things[n].dir:
		return nil, api.ErrState
	}
	return b.under(path), api.OK
}

// file is a node's thing.
func (b *book) file(n int) (*thing, api.Errno) {
	x := b.things[n]
	switch {
	case x == nil:
		return nil, api.ErrMissing
	case x.dir:
		return nil, api.ErrState
	}
	return x, api.OK
}

func (b *book) held(n, more int) api.Errno {
	x, e := b.file(n)
	switch {
	case e != api.OK:
		return e
	case x.holds+more < 0:
		return api.ErrOrder
	}
	x.holds += more
	b.sweep()
	return api.OK
}

func (b *book) read(n, at, many int) (string, api.Errno) {
	x, e := b.file(n)
	switch {
	case e != api.OK:
		return "", e
	case at < 0 || many < 0:
		return "", api.ErrRange
	case at >= len(x.text):
		return "", api.OK
	}
	return x.text[at:min(at+many, len(x.text))], api.OK
}

func (b *book) wrote(n, at int, s string) api.Errno {
	x, e := b.file(n)
	switch {
	case e != api.OK:
		return e
	case at < 0:
		return api.ErrRange
	case at+len(s) > api.MaxFile:
		return api.ErrLimit
	}
	x.text = written(x.text, at, s)
	return api.OK
}

func (b *book) cut(n, size int) api.Errno {
	x, e := b.file(n)
	switch {
	case e != api.OK:
		return e
	case size < 0:
		return api.ErrRange
	}
	x.text = x.text[:min(size, len(x.text))]
	return api.OK
}

// walk is a book, and the tree that is held against it.
type walk struct {
	*book
	r     *tree.Tree
	names int // how many names there are to draw from
}

// path is drawn: most often one that is there, or one below it, now and then one that is none.
func (k *walk) path(d *die) string {
	if d.below(30) == 0 {
		return noPaths[d.below(len(noPaths))]
	}
	all := make([]string, 0, len(k.paths))
	for p := range k.paths {
		all = append(all, p)
	}
	slices.Sort(all)
	p := all[d.below(len(all))]
	for range d.below(5) / 2 {
		p += "/" + []string{"a", "b", "ab", "c", "a.", "\x00", "\xff", "abcdefghijkl"}[d.below(8)]
		if d.below(2) == 0 {
			p += string([]byte{byte('0' + d.below(k.names))})
		}
	}
	if p == "" {
		return "/"
	}
	return p
}

// text is a few bytes, now and then many.
func (d *die) text() string {
	return line(d.below(256), d.below(8)+d.below(10)/9*d.below(api.MaxFile+2))
}

func (d *die) number() int {
	return d.below(12) - d.below(20)/19 + d.below(12)/11*d.below(api.MaxFile+5)
}

// step asks one thing that changes the tree, perhaps.
func (k *walk) step(t *testing.T, d *die, makes int) {
	t.Helper()
	p, q, n, at := k.path(d), k.path(d), d.below(k.r.Nodes()+2)-d.below(25)/24, d.number()
	switch do := d.below(24 + makes); {
	case do < 2:
		wrong(t, fmt.Sprintf("Link(%q, %q)", p, q), k.r.Link(p, q), k.linked(p, q))
	case do < 6:
		wrong(t, fmt.Sprintf("Unlink(%q)", p), k.r.Unlink(p), k.unlinked(p))
	case do < 10:
		wrong(t, fmt.Sprintf("Rename(%q, %q)", p, q), k.r.Rename(p, q), k.renamed(p, q))
	case do < 12:
		wrong(t, fmt.Sprintf("Hold(%d)", n), k.r.Hold(n), k.held(n, 1))
	case do < 15:
		wrong(t, fmt.Sprintf("Drop(%d)", n), k.r.Drop(n), k.held(n, -1))
	case do < 18:
		s := d.text()
		wrong(t, fmt.Sprintf("Write(%d, %d, %q)", n, at, s), k.r.Write(n, at, s), k.wrote(n, at, s))
	case do < 19:
		wrong(t, fmt.Sprintf("Cut(%d, %d)", n, at), k.r.Cut(n, at), k.cut(n, at))
	case do%2 == 0:
		got, err := k.r.Mkdir(p)
		want, e := k.made(p, thing{dir: true})
		wrong(t, fmt.Sprintf("Mkdir(%q)", p), err, e)
		if got != want {
			t.Errorf("Mkdir(%q): %d: want %d", p, got, want)
		}
	default:
		got, err := k.r.Create(p)
		want, e := k.made(p, thing{})
		wrong(t, fmt.Sprintf("Create(%q)", p), err, e)
		if got != want {
			t.Errorf("Create(%q): %d: want %d", p, got, want)
		}
	}
}

// asks asks a few things that change nothing.
func (k *walk) asks(t *testing.T, d *die) {
	t.Helper()
	p := k.path(d)
	n, err := k.r.Find(p)
	want, e := k.at(p)
	wrong(t, fmt.Sprintf("Find(%q)", p), err, e)
	if n != want {
		t.Errorf("Find(%q): %d: want %d", p, n, want)
	}
	l, err := k.r.List(p)
	names, e := k.listed(p)
	wrong(t, fmt.Sprintf("List(%q)", p), err, e)
	if !slices.Equal(l, names) {
		t.Errorf("List(%q): %q: want %q", p, l, names)
	}
	n, at, many := d.below(k.r.Nodes()+2)-1, d.number(), d.number()
	s, err := k.r.Read(n, at, many)
	text, e := k.read(n, at, many)
	wrong(t, fmt.Sprintf("Read(%d, %d, %d)", n, at, many), err, e)
	if s != text {
		t.Errorf("Read(%d, %d, %d): %q: want %q", n, at, many, s, text)
	}
	nodes(t, "on a walk", k.r, len(k.things))
}

// same holds all that can be seen against the book.
func (k *walk) same(t *testing.T) {
	t.Helper()
	nodes(t, "on a walk", k.r, len(k.things))
	for p, n := range k.paths {
		if p == "" {
			p = "/"
		}
		finds(t, k.r, p, n)
		if k.things[n].dir {
			lists(t, k.r, p, k.under(p)...)
		}
	}
	for n := -1; n <= api.MaxNodes; n++ {
		switch x, e := k.file(n); e {
		case api.OK:
			has(t, k.r, n, x.text)
		default:
			_, err := k.r.Size(n)
			wrong(t, fmt.Sprintf("Size(%d)", n), err, e)
		}
	}
}

// ends drops all that is held, and takes all names away: nothing is left then but the directory of all.
func (k *walk) ends(t *testing.T) {
	t.Helper()
	var paths []string
	for p := range k.paths {
		paths = append(paths, p)
	}
	slices.Sort(paths)
	slices.Reverse(paths) // what is in a directory stands ahead of it
	for _, p := range paths[:len(paths)-1] {
		unlinks(t, k.r, p)
	}
	for n, x := range k.things {
		for range x.holds {
			done(t, "Drop", k.r.Drop(n))
		}
	}
	nodes(t, "at the end", k.r, 1)
	lists(t, k.r, "/")
	for n := 1; n <= api.MaxNodes; n++ {
		gone(t, k.r, n)
	}
}

// Long walks, held against books. With few names much is refused; with many of them, and much that is made, the tree is full.
func TestWalksAreAsTheDocumentSays(t *testing.T) {
	d := die(7)
	fullest := 0
	for i := range 120 {
		k := &walk{book: newBook(), r: tree.New(), names: 1 + d.below(10)}
		makes := 1 + d.below(20)*d.below(12)
		for step := range 300 {
			k.step(t, &d, makes)
			k.asks(t, &d)
			if step%25 == 0 {
				k.same(t)
			}
			fullest = max(fullest, len(k.things))
			if t.Failed() {
				t.Fatalf("walk %d, step %d", i, step)
			}
		}
		k.same(t)
		k.ends(t)
	}
	if fullest != api.MaxNodes {
		t.Errorf("no walk came to a full tree: %d nodes at most", fullest)
	}
}
