package kernel_test

import (
	"fmt"
	"slices"
	"strings"
	"testing"

	"almshouse/api"
	"almshouse/plain"
)

// die has numbers that look drawn, the same each time.
type die uint64

func (d *die) below(n int) int {
	*d = *d*6364136223846793005 + 1442695040888963407
	return int(uint64(*d>>33) % uint64(n))
}

// rarely is true once in n times.
func (d *die) rarely(n int) bool { return d.below(n) == 0 }

// of is one of a list.
func of[T any](d *die, l []T) T { return l[d.below(len(l))] }

// from is a number from least to most, or rarely one of others.
func (d *die) from(least, most int, others []int) int {
	if d.rarely(40) {
		return of(d, others)
	}
	return least + d.below(most-least+1)
}

// told is an answer, as a text: errors by their numbers, with their places, if they have one.
func told(l ...any) string {
	var s strings.Builder
	for _, x := range l {
		switch x := x.(type) {
		case nil:
			s.WriteString("error 0;")
		case error:
			e, place := plain.Place(x)
			fmt.Fprintf(&s, "error %d", int(e))
			if place != -1 {
				fmt.Fprintf(&s, " at %d", place)
			}
			s.WriteString(";")
		default:
			fmt.Fprintf(&s, "%v;", x)
		}
	}
	return s.String()
}

// walk is a kernel, and the book that it is held against.
type walk struct {
	*box
	*die
	book *book
}

// person is mostly one that runs, and one of the first ones: those have something.
func (w *walk) person() int {
	if w.rarely(25) {
		return of(w.die, append(w.book.pids(), noPids...))
	}
	running := slices.DeleteFunc(w.book.pids(), func(pid int) bool { return !w.book.runs(pid) })
	return of(w.die, running[:min(len(running), 1+w.below(8))])
}

func (w *walk) path() string {
	if w.rarely(30) {
		return of(w.die, noPaths)
	}
	return of(w.die, []string{"/a", "/b", "/c", "/d", "/d/a", "/d/b", "/e", "/e/d", "/e/d/a", "/e/d/b", "/d/e", "/"})
}

// prot is mostly for both.
func (w *walk) prot() int {
	if w.rarely(3) {
		return w.from(1, both, noUses)
	}
	return both
}

// asksProcesses asks one thing of 11.2.
func (w *walk) asksProcesses(p int) (what, got, want string) {
	sig, on, k, b := w.from(1, api.Signals, noSignals), w.rarely(2), w.Kernel, w.book
	switch do := w.below(24); {
	case do < 7:
		return "Fork", told(k.Fork(p)), told(b.fork(p))
	case do < 9:
		return "Exit", told(k.Exit(p, sig)), told(b.exit(p, sig))
	case do < 10:
		return "Exec", told(k.Exec(p)), told(b.exec(p))
	case do < 13:
		return "Wait", told(k.Wait(p)), told(b.wait(p))
	case do < 16:
		other := w.person()
		return fmt.Sprint("Kill ", other, sig), told(k.Kill(p, other, sig)), told(b.kill(p, other, sig))
	case do < 18:
		return fmt.Sprint("Ignore ", sig, on), told(k.Ignore(p, sig, on)), told(b.ignore(p, sig, on))
	case do < 20:
		return "Signal", told(k.Signal(p)), told(b.signal(p))
	case do < 22:
		kind, n := w.from(0, api.Limits-1, noKinds), w.from(0, of(w.die, []int{12, api.MaxFile + 1}), noAmounts)
		return fmt.Sprint("Limit ", kind, n), told(k.Limit(p, kind, n)), told(b.limit(p, kind, n))
	}
	n := w.from(-100, 100, noAdjusts)
	return fmt.Sprint("Adjust ", n), told(k.Adjust(p, n)), told(b.adjust(p, n))
}

// asksMemory asks one thing of 11.3.
func (w *walk) asksMemory(p int) (what, got, want string) {
	k, b, at, n, prot := w.Kernel, w.book, w.from(0, 7, noPages), 1+w.below(3), w.prot()
	if w.rarely(40) {
		s := of(w.die, noSpans)
		at, n = s[0], s[1]
	}
	what = fmt.Sprint(at, n, prot)
	switch do := w.below(24); {
	case do < 7:
		return "Map " + what, told(k.Map(p, at, n, prot)), told(b.mapped(p, at, n, prot))
	case do < 9:
		return "Unmap " + what, told(k.Unmap(p, at, n)), told(b.unmap(p, at, n))
	case do < 11:
		return "Protect " + what, told(k.Protect(p, at, n, prot)), told(b.protect(p, at, n, prot))
	}
	word, v := w.from(0, api.Words-1, noWords), int64(w.below(100))
	return fmt.Sprint("Store ", at, word, v), told(k.Store(p, at, word, v)), told(b.store(p, at, word, v))
}

// asksNumbers asks one thing of what is open.
func (w *walk) asksNumbers(p int) (what, got, want string) {
	k, b, n, to, on := w.Kernel, w.book, w.from(0, 4, noNumbers), w.from(0, api.MaxFds-1, noNumbers), w.rarely(2)
	many := w.below(9) - w.below(20)/19
	what = fmt.Sprint(n, to, on, many)
	switch do := w.below(32); {
	case do < 3:
		return "Pipe", told(k.Pipe(p)), told(b.pipe(p))
	case do < 5:
		return "Dup " + what, told(k.Dup(p, n)), told(b.dup(p, n))
	case do < 8:
		return "Dup2 " + what, told(k.Dup2(p, n, to)), told(b.dup2(p, n, to))
	case do < 10:
		return "Mark " + what, told(k.Mark(p, n, on)), told(b.mark(p, n, on))
	case do < 13:
		return "Close " + what, told(k.Close(p, n)), told(b.close(p, n))
	case do < 20:
		return "Read " + what, told(k.Read(p, n, many)), told(b.read(p, n, many))
	case do < 22:
		at := w.from(0, 20, []int{-1, 150, api.MaxFile, api.MaxFile + 1})
		return fmt.Sprint("Seek ", n, at), told(k.Seek(p, n, at)), told(b.seek(p, n, at))
	}
	s := strings.Repeat(of(w.die, []string{"a", "b", "c"}), w.below(7)+w.below(20)/19*api.MaxFile)
	return fmt.Sprint("Write ", n, len(s)), told(k.Write(p, n, s)), told(b.write(p, n, s))
}

// asksPaths asks one thing of the tree, or opens a file.
func (w *walk) asksPaths(p int) (what, got, want string) {
	k, b, old, path, prot, makes := w.Kernel, w.book, w.path(), w.path(), w.prot(), !w.rarely(3)
	what = fmt.Sprint(old, " ", path, prot, makes)
	switch do := w.below(16); {
	case do < 6:
		return "File " + what, told(k.File(p, old, prot, makes)), told(b.file(p, old, prot, makes))
	case do < 8:
		return "Mkdir " + what, told(k.Mkdir(p, path)), told(b.mkdir(p, path))
	case do < 9:
		return "Link " + what, told(k.Link(p, old, path)), told(b.link(p, old, path))
	case do < 12:
		return "Unlink " + what, told(k.Unlink(p, old)), told(b.unlink(p, old))
	case do < 14:
		return "Rename " + what, told(k.Rename(p, old, path)), told(b.rename(p, old, path))
	}
	return "List " + what, told(k.List(p, path)), told(b.list(p, path))
}

// step asks one thing, mostly of the kind that the walk is for.
func (w *walk) step(kind int) {
	w.t.Helper()
	p := w.person()
	asks := []func(int) (string, string, string){w.asksProcesses, w.asksMemory, w.asksNumbers, w.asksPaths}
	if w.rarely(2) {
		kind = w.below(len(asks))
	}
	what, got, want := asks[kind](p)
	if got != want {
		w.t.Errorf("of %d: %s: %s: want %s", p, what, got, want)
	}
	if got, want := told(w.Has(p)), told(w.book.has(p)); got != want {
		w.t.Errorf("of %d: behind %s: Has: %s: want %s", p, what, got, want)
	}
}

func (w *walk) same() {
	w.t.Helper()
	if got, want := seen(w.Kernel), w.book.seen(); got != want {
		w.t.Errorf("seen:\n%s\nwant:\n%s", got, want)
	}
}

// clears lets everybody end, and all names go: all must come back then.
func (w *walk) clears() {
	w.t.Helper()
	for _, pid := range w.Pids() {
		if pid != 1 && w.State(pid) == api.Runs {
			w.exits(pid, 0)
		}
	}
	for {
		if _, _, err := w.Wait(1); err != nil {
			break
		}
	}
	done(w.t, "Exec", w.Exec(1))
	for n := range api.MaxFds {
		_ = w.Close(1, n)
	}
	w.removes("")
	w.counts("all are gone", w.book.frames, 0, 1)
	w.run([]int{1}, nil)
}

// removes takes all names away that are below a directory.
func (w *walk) removes(dir string) {
	w.t.Helper()
	path := dir
	if dir == "" {
		path = "/"
	}
	l, _ := w.List(1, path) // a file has none
	for _, name := range l {
		w.removes(dir + "/" + name)
		done(w.t, "Unlink", w.Unlink(1, dir+"/"+name))
	}
}

// Long walks of many processes, held against a book.
func TestWalksAreAsTheDocumentSays(t *testing.T) {
	d := die(11)
	for i := range 160 {
		frames := 1 + d.below(10) + d.below(8)/7*100
		w := &walk{box: newBox(t, frames), die: &d, book: newBook(frames)}
		for step := range 400 {
			w.step(i % 4)
			if step%6 == 0 {
				w.same()
			}
			if t.Failed() {
				t.Fatalf("walk %d, step %d, of %d frames", i, step, frames)
			}
		}
		w.same()
		w.clears()
	}
}
