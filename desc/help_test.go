package desc_test

import (
	"fmt"
	"math"
	"strings"
	"testing"

	"almshouse/api"
	"almshouse/desc"
	"almshouse/plain"
	"almshouse/tree"
)

const (
	both  = api.Reads + api.Writes
	most  = api.MaxFile
	whole = math.MaxInt // more bytes than there ever are
)

var (
	// Beside the neighbours of the numbers stand such as are one of them in 8, 16 or 32 bits alone.
	noNumbers = []int{
		math.MinInt, math.MinInt + 1, -1 << 32, -256, -api.MaxFds - 1, -api.MaxFds, -2, -1, api.MaxFds, api.MaxFds + 1, 2 * api.MaxFds,
		256, 257, 1 << 16, 1<<16 + 1, 1<<31 + 1, 1 << 32, 1<<32 + 1, math.MaxInt - 1, math.MaxInt,
	}
	noUses    = []int{math.MinInt, math.MinInt + 1, -1 << 32, -3, -2, -1, 0, 4, 5, 6, 7, 8, 256 + 1, 1<<16 + 3, 1<<32 + 1, 1<<32 + 3, math.MaxInt}
	belowZero = []int{math.MinInt, math.MinInt + 1, -1 << 32, -most - 1, -most, -2, -1}
	great     = []int{most + 1, 2 * most, 256, 1 << 16, 1 << 31, 1 << 32, math.MaxInt - most, math.MaxInt - 1, math.MaxInt}
)

// line is n bytes of which no two neighbours are alike, from the byte first on.
func line(first, n int) string {
	b := make([]byte, n)
	for i := range b {
		b[i] = byte(first + i)
	}
	return string(b)
}

func wrong(t *testing.T, what string, err error, want api.Errno) {
	t.Helper()
	if e, place := plain.Place(err); e != want || place != -1 {
		t.Errorf("%s: error %d at %d: want %d, without a place", what, e, place, want)
	}
}

func done(t *testing.T, what string, err error) {
	t.Helper()
	if err != nil {
		t.Fatalf("%s: %v: want no error", what, err)
	}
}

// world is a tree, with files over it.
type world struct {
	r *tree.Tree
	f *desc.Files
}

// newWorld has the directories / (0), /d (1), and the files /f (2), /g (3), /d/h (4); nothing is open.
func newWorld(t *testing.T) *world {
	t.Helper()
	r := tree.New()
	_, err := r.Mkdir("/d")
	done(t, "Mkdir", err)
	for i, path := range []string{"/f", "/g", "/d/h"} {
		n, err := r.Create(path)
		done(t, "Create", err)
		done(t, "Write", r.Write(n, 0, []string{"0123456789", "abc", ""}[i]))
	}
	f, err := desc.New(r)
	done(t, "New", err)
	w := &world{r: r, f: f}
	w.counts(t, "at first", 0, 5)
	return w
}

// counts tells how many entries there are, and nodes.
func (w *world) counts(t *testing.T, what string, open, nodes int) {
	t.Helper()
	if w.f.Open() != open || w.r.Nodes() != nodes {
		t.Errorf("%s: %d entries, %d nodes: want %d, %d", what, w.f.Open(), w.r.Nodes(), open, nodes)
	}
}

// has tells just which numbers of a table are not free.
func (w *world) has(t *testing.T, what string, x *desc.Table, want ...int) {
	t.Helper()
	var is [api.MaxFds]bool
	for _, n := range want {
		is[n] = true
	}
	if x.Used() != len(want) {
		t.Errorf("%s: %d numbers are used: want %d, %v", what, x.Used(), len(want), want)
	}
	for n, yes := range is {
		if w.f.Has(x, n) != yes {
			t.Errorf("%s: Has(%d): %v: want just %v", what, n, !yes, want)
		}
	}
	for _, n := range noNumbers {
		if w.f.Has(x, n) {
			t.Errorf("%s: Has(%d): true", what, n)
		}
	}
}

func (w *world) opens(t *testing.T, x *desc.Table, path string, prot int) int {
	t.Helper()
	used, open, nodes := x.Used(), w.f.Open(), w.r.Nodes()
	n, err := w.f.File(x, path, prot, false)
	done(t, fmt.Sprintf("File(%q, %d)", path, prot), err)
	w.counts(t, "behind File", open+1, nodes)
	if x.Used() != used+1 || !w.f.Has(x, n) {
		t.Errorf("File(%q): %d: %d numbers are used: want %d, with it", path, n, x.Used(), used+1)
	}
	return n
}

func (w *world) pipes(t *testing.T, x *desc.Table) (from, into int) {
	t.Helper()
	used, open, nodes := x.Used(), w.f.Open(), w.r.Nodes()
	from, into, err := w.f.Pipe(x)
	done(t, "Pipe", err)
	w.counts(t, "behind Pipe", open+2, nodes)
	if x.Used() != used+2 || !w.f.Has(x, from) || !w.f.Has(x, into) || from >= into {
		t.Errorf("Pipe: %d, %d: %d numbers are used: want %d, with them", from, into, x.Used(), used+2)
	}
	return from, into
}

func (w *world) dups(t *testing.T, x *desc.Table, n int) int {
	t.Helper()
	used, open := x.Used(), w.f.Open()
	to, err := w.f.Dup(x, n)
	done(t, fmt.Sprintf("Dup(%d)", n), err)
	if x.Used() != used+1 || w.f.Open() != open || !w.f.Has(x, to) || to == n {
		t.Errorf("Dup(%d): %d: %d numbers of %d entries: want %d of %d", n, to, x.Used(), w.f.Open(), used+1, open)
	}
	return to
}

func (w *world) dups2(t *testing.T, x *desc.Table, n, to int) {
	t.Helper()
	done(t, fmt.Sprintf("Dup2(%d, %d)", n, to), w.f.Dup2(x, n, to))
	if !w.f.Has(x, n) || !w.f.Has(x, to) {
		t.Errorf("behind Dup2(%d, %d) one is free", n, to)
	}
}

func (w *world) marks(t *testing.T, x *desc.Table, n int, closes bool) {
	t.Helper()
	done(t, fmt.Sprintf("Mark(%d, %v)", n, closes), w.f.Mark(x, n, closes))
}

func (w *world) closes(t *testing.T, x *desc.Table, n int) {
	t.Helper()
	used := x.Used()
	done(t, fmt.Sprintf("Close(%d)", n), w.f.Close(x, n))
	if x.Used() != used-1 || w.f.Has(x, n) {
		t.Errorf("behind Close(%d): %d numbers are used: want %d, without it", n, x.Used(), used-1)
	}
}

func (w *world) reads(t *testing.T, x *desc.Table, n, many int, want string) {
	t.Helper()
	if s, err := w.f.Read(x, n, many); s != want || err != nil {
		t.Errorf("Read(%d, %d): %q, %v: want %q", n, many, s, err, want)
	}
}

func (w *world) writes(t *testing.T, x *desc.Table, n int, s string, want int) {
	t.Helper()
	if many, err := w.f.Write(x, n, s, most); many != want || err != nil {
		t.Errorf("Write(%d, %q): %d, %v: want %d", n, s, many, err, want)
	}
}

func (w *world) seeks(t *testing.T, x *desc.Table, n, at int) {
	t.Helper()
	done(t, fmt.Sprintf("Seek(%d, %d)", n, at), w.f.Seek(x, n, at))
}

func (w *world) unlinks(t *testing.T, path string) {
	t.Helper()
	done(t, fmt.Sprintf("Unlink(%q)", path), w.r.Unlink(path))
}

// holds tells all bytes of a node of the tree.
func (w *world) holds(t *testing.T, node int, want string) {
	t.Helper()
	if s, err := w.r.Read(node, 0, whole); s != want || err != nil {
		t.Errorf("node %d: %q, %v: want %q", node, s, err, want)
	}
}

// heldJust drops a file that has a name until it is not held any more: so many times; then it is held again.
func (w *world) heldJust(t *testing.T, node, times int) {
	t.Helper()
	held := 0
	for w.r.Drop(node) == nil {
		held++
	}
	for range held {
		done(t, "Hold", w.r.Hold(node))
	}
	if held != times {
		t.Errorf("node %d is held %d times: want %d", node, held, times)
	}
}

// refusesRead and refusesWrite tell an error, and that nothing is beside it.
func (w *world) refusesRead(t *testing.T, x *desc.Table, n, many int, want api.Errno) {
	t.Helper()
	s, err := w.f.Read(x, n, many)
	wrong(t, fmt.Sprintf("Read(%d, %d)", n, many), err, want)
	if s != "" {
		t.Errorf("Read(%d, %d): %q beside an error", n, many, s)
	}
}

func (w *world) refusesWrite(t *testing.T, x *desc.Table, n int, s string, limit int, want api.Errno) {
	t.Helper()
	many, err := w.f.Write(x, n, s, limit)
	wrong(t, fmt.Sprintf("Write(%d, %.20q, %d)", n, s, limit), err, want)
	if many != 0 {
		t.Errorf("Write(%d, %.20q, %d): %d beside an error", n, s, limit, many)
	}
}

func (w *world) refusesFile(t *testing.T, x *desc.Table, path string, prot int, makes bool, want api.Errno) {
	t.Helper()
	n, err := w.f.File(x, path, prot, makes)
	wrong(t, fmt.Sprintf("File(%q, %d, %v)", path, prot, makes), err, want)
	if n != 0 {
		t.Errorf("File(%q, %d, %v): %d beside an error", path, prot, makes, n)
	}
}

func (w *world) refusesPipe(t *testing.T, x *desc.Table, want api.Errno) {
	t.Helper()
	from, into, err := w.f.Pipe(x)
	wrong(t, "Pipe", err, want)
	if from != 0 || into != 0 {
		t.Errorf("Pipe: %d, %d beside an error", from, into)
	}
}

func (w *world) refusesDup(t *testing.T, x *desc.Table, n int, want api.Errno) {
	t.Helper()
	to, err := w.f.Dup(x, n)
	wrong(t, fmt.Sprintf("Dup(%d)", n), err, want)
	if to != 0 {
		t.Errorf("Dup(%d): %d beside an error", n, to)
	}
}

func (w *world) refusesDup2(t *testing.T, x *desc.Table, n, to int, want api.Errno) {
	t.Helper()
	wrong(t, fmt.Sprintf("Dup2(%d, %d)", n, to), w.f.Dup2(x, n, to), want)
}

func (w *world) refusesSeek(t *testing.T, x *desc.Table, n, at int, want api.Errno) {
	t.Helper()
	wrong(t, fmt.Sprintf("Seek(%d, %d)", n, at), w.f.Seek(x, n, at), want)
}

// refusesAll tells that a number is free, whatever else is wrong.
func (w *world) refusesAll(t *testing.T, x *desc.Table, n int) {
	t.Helper()
	w.refusesDup(t, x, n, api.ErrMissing)
	for _, to := range []int{-1, 0, 1, api.MaxFds - 1, api.MaxFds, n} {
		w.refusesDup2(t, x, n, to, api.ErrMissing)
	}
	for _, b := range []bool{false, true} {
		wrong(t, fmt.Sprintf("Mark(%d, %v)", n, b), w.f.Mark(x, n, b), api.ErrMissing)
	}
	wrong(t, fmt.Sprintf("Close(%d)", n), w.f.Close(x, n), api.ErrMissing)
	for _, many := range []int{-1, 0, 1, whole} {
		w.refusesRead(t, x, n, many, api.ErrMissing)
		w.refusesSeek(t, x, n, many, api.ErrMissing)
		w.refusesWrite(t, x, n, "", many, api.ErrMissing)
		w.refusesWrite(t, x, n, "s", many, api.ErrMissing)
	}
}

// marked are the numbers that Exec would close: it closes them in a fork.
func (w *world) marked(x *desc.Table) []int {
	var l []int
	u := w.f.Fork(x)
	w.f.Exec(u)
	for n := range api.MaxFds {
		if w.f.Has(x, n) && !w.f.Has(u, n) {
			l = append(l, n)
		}
	}
	w.f.Clear(u)
	return l
}

// texts are the bytes of all files, by their nodes.
func (w *world) texts() map[int]string {
	all := map[int]string{}
	for n := range api.MaxNodes {
		if s, err := w.r.Read(n, 0, whole); err == nil {
			all[n] = s
		}
	}
	return all
}

// fill lets a file have just these bytes.
func (w *world) fill(node int, s string) {
	_ = w.r.Cut(node, 0)
	_ = w.r.Write(node, 0, s)
}

// probe tells which node an open file is, and at which place it stands, and lets it stand there again. It writes into all files.
func (w *world) probe(x *desc.Table, n int, texts map[int]string) (node, place int) {
	ask := func(pattern func(node int) string) string {
		for node := range texts {
			w.fill(node, pattern(node))
		}
		s, _ := w.f.Read(x, n, 1)
		if s == "" { // it may not be read, or stands at MaxFile
			_, _ = w.f.Write(x, n, "\xff", most)
			for node := range texts {
				now, _ := w.r.Read(node, 0, whole)
				if i := strings.IndexByte(now, 0xff); i >= 0 {
					return pattern(node)[i : i+1]
				}
			}
		}
		return s
	}
	node, place = -1, most
	if s := ask(func(int) string { return line(0, most) }); s != "" {
		place = int(s[0])
		_ = w.f.Seek(x, n, place)
		node = int(ask(func(node int) string { return strings.Repeat(string([]byte{byte(node)}), most) })[0])
		_ = w.f.Seek(x, n, place)
	}
	return node, place
}

// stands tells at which place an open file stands.
func (w *world) stands(t *testing.T, x *desc.Table, n, want int) {
	t.Helper()
	texts := w.texts()
	if _, place := w.probe(x, n, texts); place != want {
		t.Errorf("number %d stands at %d: want %d", n, place, want)
	}
	w.refill(texts)
}

// refill lets all files have the bytes that they had.
func (w *world) refill(texts map[int]string) {
	for node, text := range texts {
		w.fill(node, text)
	}
}

// number is all that can be seen of a number; what is taken out of a pipe for this is put back by another number.
func (w *world) number(x *desc.Table, n, into int, texts map[int]string) string {
	kind := api.Tell(w.f.Seek(x, n, -1))
	_, read := w.f.Read(x, n, 0)
	_, write := w.f.Write(x, n, "", 0)
	s := fmt.Sprintf("%d: %d, %d, %d", n, kind, api.Tell(read), api.Tell(write))
	switch {
	case kind == api.ErrRange:
		node, place := w.probe(x, n, texts)
		s += fmt.Sprintf(", node %d at %d", node, place)
	case kind == api.ErrState && read == nil:
		bytes, err := w.f.Read(x, n, whole)
		s += fmt.Sprintf(", %q, %d", bytes, api.Tell(err))
		_, _ = w.f.Write(x, into, bytes, most)
	}
	return s
}

// seen is all that can be seen of tables, and of what they lie over. The one pipe's Into end is a number of the first table.
func (w *world) seen(t *testing.T, into int, tables ...*desc.Table) string {
	t.Helper()
	texts := w.texts()
	s := fmt.Sprintf("%d entries, %d nodes, %v\n", w.f.Open(), w.r.Nodes(), texts)
	for _, dir := range []string{"/", "/d"} {
		names, err := w.r.List(dir)
		s += fmt.Sprintf("%s: %q, %v\n", dir, names, err)
	}
	for _, x := range tables {
		s += fmt.Sprintf("%d used, marked %v:\n", x.Used(), w.marked(x))
		for n := -1; n <= api.MaxFds; n++ {
			s += fmt.Sprintf("%v ", w.f.Has(x, n))
			if x == tables[0] {
				s += w.number(x, n, into, texts) + "\n"
			}
		}
	}
	w.refill(texts)
	return s
}

// some has a table in which 6 and 7 are free, and a fork of it that differs in a few numbers.
func some(t *testing.T) (w *world, x, u *desc.Table) {
	t.Helper()
	w, x = newWorld(t), &desc.Table{}
	w.opens(t, x, "/f", both)
	w.pipes(t, x)
	w.opens(t, x, "/g", api.Reads)
	w.dups(t, x, 0)
	w.opens(t, x, "/g", api.Writes)
	w.seeks(t, x, 0, 4)
	w.writes(t, x, 2, "xyz", 3)
	w.reads(t, x, 3, 1, "a")
	w.seeks(t, x, 5, 2)
	w.marks(t, x, 3, true)
	w.marks(t, x, 5, true)
	u = w.f.Fork(x)
	w.closes(t, u, 2)
	w.marks(t, u, 3, false)
	w.opens(t, u, "/d/h", api.Reads)
	w.has(t, "made", x, 0, 1, 2, 3, 4, 5)
	w.has(t, "forked", u, 0, 1, 2, 3, 4, 5)
	w.counts(t, "made", 6, 5)
	return w, x, u
}
