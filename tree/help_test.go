package tree_test

import (
	"fmt"
	"math"
	"slices"
	"strings"
	"testing"

	"almshouse/api"
	"almshouse/plain"
	"almshouse/tree"
)

const (
	most  = api.MaxFile
	whole = math.MaxInt // more bytes than any file has
)

var (
	belowZero = []int{math.MinInt, math.MinInt + 1, -1 << 32, -most - 1, -most, -2, -1}
	great     = []int{most + 1, 2 * most, 256, 1 << 16, 1 << 31, 1 << 32, math.MaxInt - most, math.MaxInt - 1, math.MaxInt}
)

// noPaths are none, whatever there is: the whole text is looked at ahead of where it leads, through what is there, what is not, and files.
var noPaths = []string{
	"", "a", "d", "f", "d/f", "a/b", " /d", "\x00/d",
	"//", "///", "//d", "/d//f", "//d/f", "/d/f//x", "/no//x", "/f//x",
	"/d/", "/f/", "/no/", "/d/f/", "/d//", "/f//",
	".", "..", "./d", "../d", "/.", "/..", "/./d", "/../d", "/d/.", "/d/..", "/d/./f", "/d/../d", "/f/.", "/f/..", "/no/.", "/no/..", "/./", "/../",
	"/abcdefghijklm", "/d/abcdefghijklm", "/f/abcdefghijklm", "/no/abcdefghijklm", "/abcdefghijklm/d", "/日本語日x", "/é1234567890x",
}

// line is n bytes of which no two neighbours are alike, from the byte first on.
func line(first, n int) string {
	b := make([]byte, n)
	for i := range b {
		b[i] = byte(first + i)
	}
	return string(b)
}

func wrong(t *testing.T, what string, err error, want api.Errno) {
	t.Helper()
	if e, place := plain.Place(err); e != want || place != -1 {
		t.Errorf("%s: error %d at %d: want %d, without a place", what, e, place, want)
	}
}

func done(t *testing.T, what string, err error) {
	t.Helper()
	if err != nil {
		t.Fatalf("%s: %v: want no error", what, err)
	}
}

func finds(t *testing.T, r *tree.Tree, path string, want int) {
	t.Helper()
	if n, err := r.Find(path); n != want || err != nil {
		t.Errorf("Find(%q): %d, %v: want %d", path, n, err, want)
	}
}

// findsNot tells an error of Find, and that no number is beside it.
func findsNot(t *testing.T, r *tree.Tree, path string, want api.Errno) {
	t.Helper()
	n, err := r.Find(path)
	wrong(t, fmt.Sprintf("Find(%q)", path), err, want)
	if n != 0 {
		t.Errorf("Find(%q): %d beside an error: want 0", path, n)
	}
}

func lists(t *testing.T, r *tree.Tree, path string, want ...string) {
	t.Helper()
	if l, err := r.List(path); !slices.Equal(l, want) || err != nil {
		t.Errorf("List(%q): %q, %v: want %q", path, l, err, want)
	}
}

func nodes(t *testing.T, what string, r *tree.Tree, want int) {
	t.Helper()
	if n := r.Nodes(); n != want {
		t.Errorf("%s: %d nodes: want %d", what, n, want)
	}
}

func mkdir(t *testing.T, r *tree.Tree, path string) int {
	t.Helper()
	had := r.Nodes()
	n, err := r.Mkdir(path)
	done(t, fmt.Sprintf("Mkdir(%q)", path), err)
	nodes(t, "behind Mkdir", r, had+1)
	finds(t, r, path, n)
	lists(t, r, path)
	return n
}

func create(t *testing.T, r *tree.Tree, path string) int {
	t.Helper()
	had := r.Nodes()
	n, err := r.Create(path)
	done(t, fmt.Sprintf("Create(%q)", path), err)
	nodes(t, "behind Create", r, had+1)
	finds(t, r, path, n)
	has(t, r, n, "")
	return n
}

func links(t *testing.T, r *tree.Tree, old, path string) {
	t.Helper()
	done(t, fmt.Sprintf("Link(%q, %q)", old, path), r.Link(old, path))
}

func unlinks(t *testing.T, r *tree.Tree, path string) {
	t.Helper()
	done(t, fmt.Sprintf("Unlink(%q)", path), r.Unlink(path))
	findsNot(t, r, path, api.ErrMissing)
}

func renames(t *testing.T, r *tree.Tree, old, path string) {
	t.Helper()
	done(t, fmt.Sprintf("Rename(%q, %q)", old, path), r.Rename(old, path))
	findsNot(t, r, old, api.ErrMissing)
}

func writes(t *testing.T, r *tree.Tree, n, at int, s string) {
	t.Helper()
	done(t, fmt.Sprintf("Write(%d, %d, %q)", n, at, s), r.Write(n, at, s))
}

func reads(t *testing.T, r *tree.Tree, n, at, many int, want string) {
	t.Helper()
	if s, err := r.Read(n, at, many); s != want || err != nil {
		t.Errorf("Read(%d, %d, %d): %q, %v: want %q", n, at, many, s, err, want)
	}
}

// has tells all bytes of a file.
func has(t *testing.T, r *tree.Tree, n int, want string) {
	t.Helper()
	if size, err := r.Size(n); size != len(want) || err != nil {
		t.Errorf("Size(%d): %d, %v: want %d", n, size, err, len(want))
	}
	reads(t, r, n, 0, whole, want)
}

// heldJust drops a file until it is not held any more: so many times. It has a name, and stays.
func heldJust(t *testing.T, r *tree.Tree, n, times int) {
	t.Helper()
	for range times {
		done(t, fmt.Sprintf("Drop(%d)", n), r.Drop(n))
	}
	wrong(t, fmt.Sprintf("Drop(%d)", n), r.Drop(n), api.ErrOrder)
}

// gone tells that there is no such node, whatever is asked of it.
func gone(t *testing.T, r *tree.Tree, n int) {
	t.Helper()
	refusesAll(t, r, n, api.ErrMissing)
}

// refusesAll asks all that can be asked of a node by its number, also with numbers that would be wrong themselves.
func refusesAll(t *testing.T, r *tree.Tree, n int, want api.Errno) {
	t.Helper()
	before := seen(r)
	wrong(t, fmt.Sprintf("Hold(%d)", n), r.Hold(n), want)
	wrong(t, fmt.Sprintf("Drop(%d)", n), r.Drop(n), want)
	size, err := r.Size(n)
	wrong(t, fmt.Sprintf("Size(%d)", n), err, want)
	if size != 0 {
		t.Errorf("Size(%d): %d beside an error: want 0", n, size)
	}
	for _, at := range []int{0, 1, -1, most + 1, math.MaxInt, math.MinInt} {
		s, err := r.Read(n, at, 1)
		wrong(t, fmt.Sprintf("Read(%d, %d, 1)", n, at), err, want)
		if s != "" {
			t.Errorf("Read(%d, %d, 1): %q beside an error: want none", n, at, s)
		}
		_, err = r.Read(n, 0, at)
		wrong(t, fmt.Sprintf("Read(%d, 0, %d)", n, at), err, want)
		wrong(t, fmt.Sprintf("Write(%d, %d)", n, at), r.Write(n, at, "x"), want)
		wrong(t, fmt.Sprintf("Write(%d, %d) of nothing", n, at), r.Write(n, at, ""), want)
		wrong(t, fmt.Sprintf("Cut(%d, %d)", n, at), r.Cut(n, at), want)
	}
	if seen(r) != before {
		t.Errorf("node %d: it was refused, and changed something", n)
	}
}

// seen is all that can be asked of a tree without changing it.
func seen(r *tree.Tree) string {
	var b strings.Builder
	fmt.Fprintln(&b, r.Nodes())
	look(&b, r, "/")
	for n := -1; n <= api.MaxNodes; n++ {
		size, err := r.Size(n)
		s, err2 := r.Read(n, 0, whole)
		fmt.Fprintf(&b, "%d: %d %q %v %v\n", n, size, s, err, err2)
	}
	return b.String()
}

func look(b *strings.Builder, r *tree.Tree, path string) {
	n, err := r.Find(path)
	l, err2 := r.List(path)
	fmt.Fprintf(b, "%q: %d %q %v %v\n", path, n, l, err, err2)
	for _, name := range l {
		look(b, r, strings.TrimSuffix(path, "/")+"/"+name)
	}
}

// refuses tells that what is asked is wrong, and changes nothing.
func refuses(t *testing.T, what string, r *tree.Tree, want api.Errno, ask func() error) {
	t.Helper()
	before := seen(r)
	wrong(t, what, ask(), want)
	if after := seen(r); after != before {
		t.Errorf("%s: it was refused, and changed something:\n%s\nwas:\n%s", what, after, before)
	}
}

func refusesFind(t *testing.T, r *tree.Tree, path string, want api.Errno) {
	t.Helper()
	refuses(t, fmt.Sprintf("Find(%q)", path), r, want, func() error { findsNot(t, r, path, want); return want })
}

func refusesList(t *testing.T, r *tree.Tree, path string, want api.Errno) {
	t.Helper()
	refuses(t, fmt.Sprintf("List(%q)", path), r, want, func() error {
		l, err := r.List(path)
		if len(l) > 0 {
			t.Errorf("List(%q): %q beside an error: want none", path, l)
		}
		return err
	})
}

func refusesMkdir(t *testing.T, r *tree.Tree, path string, want api.Errno) {
	t.Helper()
	refusesNew(t, "Mkdir", r, r.Mkdir, path, want)
}

func refusesCreate(t *testing.T, r *tree.Tree, path string, want api.Errno) {
	t.Helper()
	refusesNew(t, "Create", r, r.Create, path, want)
}

func refusesNew(t *testing.T, what string, r *tree.Tree, makes func(string) (int, error), path string, want api.Errno) {
	t.Helper()
	refuses(t, fmt.Sprintf("%s(%q)", what, path), r, want, func() error {
		n, err := makes(path)
		if n != 0 {
			t.Errorf("%s(%q): %d beside an error: want 0", what, path, n)
		}
		return err
	})
}

// refusesBoth: Mkdir, and Create.
func refusesBoth(t *testing.T, r *tree.Tree, path string, want api.Errno) {
	t.Helper()
	refusesMkdir(t, r, path, want)
	refusesCreate(t, r, path, want)
}

func refusesLink(t *testing.T, r *tree.Tree, old, path string, want api.Errno) {
	t.Helper()
	refuses(t, fmt.Sprintf("Link(%q, %q)", old, path), r, want, func() error { return r.Link(old, path) })
}

func refusesUnlink(t *testing.T, r *tree.Tree, path string, want api.Errno) {
	t.Helper()
	refuses(t, fmt.Sprintf("Unlink(%q)", path), r, want, func() error { return r.Unlink(path) })
}

func refusesRename(t *testing.T, r *tree.Tree, old, path string, want api.Errno) {
	t.Helper()
	refuses(t, fmt.Sprintf("Rename(%q, %q)", old, path), r, want, func() error { return r.Rename(old, path) })
}

func refusesRead(t *testing.T, r *tree.Tree, n, at, many int, want api.Errno) {
	t.Helper()
	refuses(t, fmt.Sprintf("Read(%d, %d, %d)", n, at, many), r, want, func() error {
		s, err := r.Read(n, at, many)
		if s != "" {
			t.Errorf("Read(%d, %d, %d): %q beside an error: want none", n, at, many, s)
		}
		return err
	})
}

func refusesWrite(t *testing.T, r *tree.Tree, n, at int, s string, want api.Errno) {
	t.Helper()
	refuses(t, fmt.Sprintf("Write(%d, %d, %.20q)", n, at, s), r, want, func() error { return r.Write(n, at, s) })
}

func refusesCut(t *testing.T, r *tree.Tree, n, size int, want api.Errno) {
	t.Helper()
	refuses(t, fmt.Sprintf("Cut(%d, %d)", n, size), r, want, func() error { return r.Cut(n, size) })
}

// some is a tree with a directory /d (1), in which is a file f (2), and an empty directory e (3); a file /f (4), whose bytes are "four"; and a file /g (5), which /d/g leads to as well.
func some(t *testing.T) *tree.Tree {
	t.Helper()
	r := tree.New()
	mkdir(t, r, "/d")
	create(t, r, "/d/f")
	mkdir(t, r, "/d/e")
	writes(t, r, create(t, r, "/f"), 0, "four")
	create(t, r, "/g")
	links(t, r, "/g", "/d/g")
	return r
}

// filled is a tree with just one file, with such bytes: its number is 1. It has had others before.
func filled(t *testing.T, text string) *tree.Tree {
	t.Helper()
	r := tree.New()
	n := create(t, r, "/f")
	writes(t, r, n, 0, strings.Repeat("?", most))
	done(t, "Cut", r.Cut(n, 0))
	writes(t, r, n, 0, text)
	has(t, r, n, text)
	return r
}
