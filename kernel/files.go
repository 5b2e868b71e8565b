package kernel

import "almshouse/api"

const unheard = 5 // the signal that waits for one that writes into a pipe from which nobody reads

// File opens a file. ErrMissing; ErrLimit: it would have more descriptors than it may; desc.File's errors.
func (k *Kernel) File(pid int, path string, prot int, makes bool) (n int, err error) {
	h, err := k.find(pid)
	if err != nil {
		return 0, err
	}
	err = h.payFirst(api.Fds, 1, func() (err error) {
		n, err = k.files.File(h.table, path, prot, makes)
		return err
	})
	return n, err
}

// Pipe opens both ends of a pipe. ErrMissing; ErrLimit; desc.Pipe's errors.
func (k *Kernel) Pipe(pid int) (from, into int, err error) {
	h, err := k.find(pid)
	if err != nil {
		return 0, 0, err
	}
	err = h.payFirst(api.Fds, 2, func() (err error) {
		from, into, err = k.files.Pipe(h.table)
		return err
	})
	return from, into, err
}

// Dup lets the least free number be what another one is. ErrMissing; ErrLimit; desc.Dup's errors.
func (k *Kernel) Dup(pid, n int) (to int, err error) {
	h, err := k.find(pid)
	if err != nil {
		return 0, err
	}
	err = h.payFirst(api.Fds, 1, func() (err error) {
		to, err = k.files.Dup(h.table, n)
		return err
	})
	return to, err
}

// Dup2 lets a number be what another one is. ErrMissing; desc.Dup2's errors; ErrLimit: it would have more than it may.
func (k *Kernel) Dup2(pid, n, to int) (_ error) {
	h, err := k.find(pid)
	if err != nil {
		return err
	}
	cost := 1
	if k.files.Has(h.table, to) { // it is only of another entry then
		cost = 0
	}
	return h.payLast(api.Fds, cost,
		func() error { return k.files.Dup2(h.table, n, to) },
		func() error { return k.files.Close(h.table, to) })
}

// Mark says whether a number is closed by Exec. ErrMissing.
func (k *Kernel) Mark(pid, n int, closes bool) (_ error) {
	h, err := k.find(pid)
	if err != nil {
		return err
	}
	return k.files.Mark(h.table, n, closes)
}

// Close closes a number. ErrMissing.
func (k *Kernel) Close(pid, n int) (_ error) {
	h, err := k.find(pid)
	if err != nil {
		return err
	}
	if err := k.files.Close(h.table, n); err != nil {
		return err
	}
	h.settle()
	return nil
}

// Read takes bytes. ErrMissing; desc.Read's errors.
func (k *Kernel) Read(pid, n, many int) (_ string, _ error) {
	h, err := k.find(pid)
	if err != nil {
		return "", err
	}
	return k.files.Read(h.table, n, many)
}

// Write puts bytes: how many. ErrMissing; desc.Write's errors; ErrLimit: a file would have more than it may write; a pipe without anybody to whom bytes come: ErrDevice, and signal 5 waits for it.
func (k *Kernel) Write(pid, n int, s string) (_ int, _ error) {
	h, err := k.find(pid)
	if err != nil {
		return 0, err
	}
	many, err := k.files.Write(h.table, n, s, h.ledger.Most(api.Bytes))
	if api.Tell(err) == api.ErrDevice {
		_ = k.procs.Kill(pid, unheard)
	}
	return many, err
}

// Seek lets a file go on from a place. ErrMissing; desc.Seek's errors.
func (k *Kernel) Seek(pid, n, at int) (_ error) {
	h, err := k.find(pid)
	if err != nil {
		return err
	}
	return k.files.Seek(h.table, n, at)
}

// Mkdir makes a directory. ErrMissing; tree.Mkdir's errors.
func (k *Kernel) Mkdir(pid int, path string) (_ error) {
	if _, err := k.find(pid); err != nil {
		return err
	}
	_, err := k.tree.Mkdir(path)
	return err
}

// Link lets a file have one name more. ErrMissing; tree.Link's errors.
func (k *Kernel) Link(pid int, old, path string) (_ error) {
	if _, err := k.find(pid); err != nil {
		return err
	}
	return k.tree.Link(old, path)
}

// Unlink takes a name away. ErrMissing; tree.Unlink's errors.
func (k *Kernel) Unlink(pid int, path string) (_ error) {
	if _, err := k.find(pid); err != nil {
		return err
	}
	return k.tree.Unlink(path)
}

// Rename lets what has a name have another one. ErrMissing; tree.Rename's errors.
func (k *Kernel) Rename(pid int, old, path string) (_ error) {
	if _, err := k.find(pid); err != nil {
		return err
	}
	return k.tree.Rename(old, path)
}

// List are a directory's names. ErrMissing; tree.List's errors.
func (k *Kernel) List(pid int, path string) (_ []string, _ error) {
	if _, err := k.find(pid); err != nil {
		return nil, err
	}
	return k.tree.List(path)
}
