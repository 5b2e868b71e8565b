package kernel_test

import (
	"fmt"
	"strings"
	"testing"

	"almshouse/api"
	"almshouse/kernel"
)

// seen is all that can be asked of a kernel without changing it, as a text.
func seen(k *kernel.Kernel) string {
	var s strings.Builder
	fmt.Fprintln(&s, k.Left(), k.Open(), k.Nodes(), k.Pids())
	for _, pid := range k.Pids() {
		pages, resident, fds, err := k.Has(pid)
		fmt.Fprintln(&s, pid, k.State(pid), pages, resident, fds, api.Tell(err))
		for at := range api.MaxPages {
			if _, err := k.Load(pid, at, 0); api.Tell(err) == api.ErrMissing {
				continue
			}
			fmt.Fprint(&s, "page ", at, ":")
			for w := range api.Words {
				v, err := k.Load(pid, at, w)
				fmt.Fprint(&s, " ", v, api.Tell(err))
			}
			fmt.Fprintln(&s)
		}
	}
	return s.String() + names(k, "")
}

// names are all names below a directory, by its path (the one of all: the empty text).
func names(k *kernel.Kernel, dir string) string {
	path := dir
	if dir == "" {
		path = "/"
	}
	l, err := k.List(1, path)
	s := fmt.Sprintln(path, l, api.Tell(err))
	for _, name := range l {
		s += names(k, dir+"/"+name)
	}
	return s
}

// reveals are ways to ask a kernel what can't be seen without changing it. Each tells all answers that it got, and leaves the kernel changed.
func reveals() []func(k *kernel.Kernel) string {
	l := []func(k *kernel.Kernel) string{revealBytes, revealLimits, revealMarks, revealWeights, revealUses}
	for sig := 1; sig <= api.Signals; sig++ {
		l = append(l, func(k *kernel.Kernel) string { return revealSignal(k, sig) })
		l = append(l, func(k *kernel.Kernel) string { return revealIgnored(k, sig) })
	}
	return l
}

// ofAll asks all that run, rising; then it tells what is seen, and who is waited for.
func ofAll(k *kernel.Kernel, ask func(pid int) string) string {
	var s strings.Builder
	for _, pid := range k.Pids() {
		if k.State(pid) == api.Runs {
			fmt.Fprintln(&s, pid, ask(pid))
		}
	}
	s.WriteString(seen(k))
	for _, pid := range k.Pids() {
		for {
			child, code, err := k.Wait(pid)
			fmt.Fprintln(&s, pid, child, code, api.Tell(err))
			if err != nil {
				break
			}
		}
	}
	return s.String()
}

// revealBytes tells places, and what files and pipes have.
func revealBytes(k *kernel.Kernel) string {
	return ofAll(k, func(pid int) (s string) {
		for n := range api.MaxFds {
			r, err := k.Read(pid, n, 2)
			w, err2 := k.Write(pid, n, "z")
			err3 := k.Seek(pid, n, 0)
			all, err4 := k.Read(pid, n, whole)
			s += fmt.Sprintln(n, r, api.Tell(err), w, api.Tell(err2), api.Tell(err3), all, api.Tell(err4))
		}
		return s
	})
}

// revealLimits tells how many bytes, numbers and pages a process may have.
func revealLimits(k *kernel.Kernel) string {
	return ofAll(k, func(pid int) (s string) {
		for n := range api.MaxFds {
			for size := api.MaxFile; size > 0 && k.Seek(pid, n, 0) == nil; size-- {
				if w, err := k.Write(pid, n, strings.Repeat("y", size)); err == nil {
					s += fmt.Sprintln(n, w)
					break
				}
			}
		}
		for n := range api.MaxFds {
			to, err := k.Dup(pid, n)
			s += fmt.Sprintln(n, to, api.Tell(err))
		}
		for at := range api.MaxPages {
			s += fmt.Sprintln(at, api.Tell(k.Map(pid, at, 1, both)))
		}
		return s
	})
}

// revealMarks tells which numbers are closed by Exec.
func revealMarks(k *kernel.Kernel) string {
	return ofAll(k, func(pid int) (s string) {
		s = fmt.Sprintln(api.Tell(k.Exec(pid)))
		for n := range api.MaxFds {
			_, err := k.Read(pid, n, -1)
			s += fmt.Sprintln(n, api.Tell(err))
		}
		return s
	})
}

// revealWeights tells who goes for 1's pages, in which order.
func revealWeights(k *kernel.Kernel) string {
	var s strings.Builder
	fmt.Fprintln(&s, api.Tell(k.Limit(1, api.Pages, api.MaxPages)))
	for at := range api.MaxPages {
		err := k.Map(1, at, 1, both)
		went, err2 := k.Store(1, at, 0, 1)
		fmt.Fprintln(&s, at, api.Tell(err), went, api.Tell(err2))
	}
	return s.String() + ofAll(k, func(int) string { return "" })
}

// revealUses tells which pages may be written, and what they have behind it.
func revealUses(k *kernel.Kernel) string {
	return ofAll(k, func(pid int) (s string) {
		for at := range api.MaxPages {
			if _, err := k.Load(pid, at, 0); api.Tell(err) == api.ErrFalse {
				s += fmt.Sprintln(at, api.Tell(k.Protect(pid, at, 1, both)), seen(k))
			} else if err == nil {
				went, err := k.Store(pid, at, 7, 70)
				s += fmt.Sprintln(at, went, api.Tell(err))
			}
		}
		return s
	})
}

// revealSignal tells which signal from sig on is the least that waits: those below it are ignored first.
func revealSignal(k *kernel.Kernel, sig int) string {
	return ofAll(k, func(pid int) (s string) {
		for low := 1; low < sig; low++ {
			s += fmt.Sprintln(api.Tell(k.Ignore(pid, low, true)))
		}
		ended, err := k.Signal(pid)
		return s + fmt.Sprintln(ended, api.Tell(err))
	})
}

// revealIgnored tells whether a process ignores a signal.
func revealIgnored(k *kernel.Kernel, sig int) string {
	return ofAll(k, func(pid int) (s string) {
		ended, err := k.Signal(pid) // what waits already would hide it
		err2 := k.Kill(pid, pid, sig)
		ended2, err3 := k.Signal(pid)
		return fmt.Sprintln(ended, api.Tell(err), api.Tell(err2), ended2, api.Tell(err3))
	})
}

// twin is how to build a kernel, again and again the same, and what each way to ask it reveals.
type twin struct {
	build func() *kernel.Kernel
	seen  string
	told  []string
}

func newTwin(build func() *kernel.Kernel) *twin {
	w := &twin{build: build, seen: seen(build())}
	for _, reveal := range reveals() {
		w.told = append(w.told, reveal(build()))
	}
	return w
}

// refuses tells that what is asked is wrong, that all beside the error is zero, and that nothing is changed: not in what is seen, and not in what is seen later.
func (w *twin) refuses(t *testing.T, what string, want api.Errno, ask func(k *kernel.Kernel) (zero bool, err error)) {
	t.Helper()
	for i, reveal := range reveals() {
		k := w.build()
		zero, err := ask(k)
		wrong(t, what, err, want)
		if !zero {
			t.Errorf("%s: something stands beside the error", what)
		}
		if i == 0 && seen(k) != w.seen {
			t.Errorf("%s: it was refused, and changed something:\n%s\nit was:\n%s", what, seen(k), w.seen)
		}
		if got := reveal(k); got != w.told[i] {
			t.Errorf("%s: it was refused, and something is otherwise later (%d):\n%s\nit was:\n%s", what, i, got, w.told[i])
		}
		if t.Failed() {
			return
		}
	}
}

// says tells it of a call that answers an error alone.
func (w *twin) says(t *testing.T, what string, want api.Errno, ask func(k *kernel.Kernel) error) {
	t.Helper()
	w.refuses(t, what, want, func(k *kernel.Kernel) (bool, error) { return true, ask(k) })
}
