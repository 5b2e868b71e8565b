package kernel

import "almshouse/api"

const (
	hundred    = 100 // the code of one that a signal ends is so much more than the signal
	mostAdjust = 100 // an adjustment is from this below 0 to this
)

// Signal lets what waits for a process come to it: a signal ends it (but 1), with a hundred and the signal as its code: whether it ended. ErrMissing: it does not run.
func (k *Kernel) Signal(pid int) (_ bool, _ error) {
	if _, err := k.find(pid); err != nil {
		return false, err
	}
	for sig := k.procs.Take(pid); sig != 0; sig = k.procs.Take(pid) {
		if pid != first {
			return true, k.end(pid, hundred+sig)
		}
	}
	return false, nil
}

// Fork makes a process like another one. ErrMissing; ErrFull.
func (k *Kernel) Fork(pid int) (_ int, _ error) {
	h, err := k.find(pid)
	if err != nil {
		return 0, err
	}
	child, err := k.procs.Fork(pid)
	if err != nil {
		return 0, err
	}
	k.running[child] = h.fork(k.files)
	return child, nil
}

// Exit ends a process. ErrMissing; ErrState: it is 1.
func (k *Kernel) Exit(pid, code int) (_ error) {
	if _, err := k.find(pid); err != nil {
		return err
	}
	return k.end(pid, code)
}

// Exec takes a process's pages away, and closes what is closed by it. ErrMissing.
func (k *Kernel) Exec(pid int) (_ error) {
	h, err := k.find(pid)
	if err != nil {
		return err
	}
	h.space.Clear()
	k.files.Exec(h.table)
	h.settle()
	return nil
}

// Wait takes one of its own that is dead. proc.Wait's errors.
func (k *Kernel) Wait(pid int) (child, code int, err error) {
	if _, err := k.find(pid); err != nil {
		return 0, 0, err
	}
	return k.procs.Wait(pid)
}

// Kill lets a signal wait for another process. ErrMissing: who kills does not run; proc.Kill's errors.
func (k *Kernel) Kill(pid, other, sig int) (_ error) {
	if _, err := k.find(pid); err != nil {
		return err
	}
	return k.procs.Kill(other, sig)
}

// Ignore lets a signal be ignored, or not. ErrMissing: it does not run; proc.Ignore's errors.
func (k *Kernel) Ignore(pid, sig int, on bool) (_ error) {
	if _, err := k.find(pid); err != nil { // proc tells it behind ErrRange
		return err
	}
	return k.procs.Ignore(pid, sig, on)
}

// Limit sets how much a process may have. ErrMissing; acct.Limit's errors.
func (k *Kernel) Limit(pid, kind, n int) (_ error) {
	h, err := k.find(pid)
	if err != nil {
		return err
	}
	return h.ledger.Limit(kind, n)
}

// Adjust sets how much more, or less, a process weighs. ErrMissing; ErrRange: not from -100 to 100.
func (k *Kernel) Adjust(pid, n int) (_ error) {
	h, err := k.find(pid)
	if err != nil {
		return err
	}
	if n < -mostAdjust || n > mostAdjust {
		return api.ErrRange
	}
	h.adjust = n
	return nil
}

// end ends a process that runs: it has nothing any more. ErrState: it is 1.
func (k *Kernel) end(pid, code int) error {
	if err := k.procs.Exit(pid, code); err != nil {
		return err
	}
	k.running[pid].clear(k.files)
	delete(k.running, pid)
	return nil
}
