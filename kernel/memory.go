package kernel

import (
	"almshouse/api"
	"almshouse/oom"
)

// Map makes pages. ErrMissing; vm.Map's errors; ErrLimit: it would have more pages than it may.
func (k *Kernel) Map(pid, at, n, prot int) (_ error) {
	h, err := k.find(pid)
	if err != nil {
		return err
	}
	return h.payLast(api.Pages, n,
		func() error { return h.space.Map(at, n, prot) },
		func() error { return h.space.Unmap(at, n) })
}

// Unmap takes pages away. ErrMissing; vm.Unmap's errors.
func (k *Kernel) Unmap(pid, at, n int) (_ error) {
	h, err := k.find(pid)
	if err != nil {
		return err
	}
	if err := h.space.Unmap(at, n); err != nil {
		return err
	}
	h.settle()
	return nil
}

// Protect changes what pages may be used for. ErrMissing; vm.Protect's errors.
func (k *Kernel) Protect(pid, at, n, prot int) (_ error) {
	h, err := k.find(pid)
	if err != nil {
		return err
	}
	return h.space.Protect(at, n, prot)
}

// Load is a word. ErrMissing; vm.Load's errors.
func (k *Kernel) Load(pid, at, w int) (_ int64, _ error) {
	h, err := k.find(pid)
	if err != nil {
		return 0, err
	}
	return h.space.Load(at, w)
}

// Store changes a word; if there is no frame, who weighs most (but 1) goes, with the last signal, and it is tried again: who went, in order. ErrMissing; vm.Store's errors; ErrFull: there is no frame, and nobody goes; ErrOrder: it went itself.
func (k *Kernel) Store(pid, at, w int, v int64) (_ []int, _ error) {
	h, err := k.find(pid)
	if err != nil {
		return nil, err
	}
	var went []int
	for {
		if err := h.space.Store(at, w, v); api.Tell(err) != api.ErrFull {
			return went, err
		}
		victim, ok := oom.Victim(k.candidates())
		if !ok {
			return went, api.ErrFull
		}
		if err := k.end(victim, hundred+api.Signals); err != nil {
			return went, err
		}
		went = append(went, victim)
		if victim == pid {
			return went, api.ErrOrder
		}
	}
}

// candidates are those that run, and may go for want of memory: all but 1.
func (k *Kernel) candidates() []oom.Cand {
	var l []oom.Cand
	for _, pid := range k.procs.Pids() {
		if h := k.running[pid]; h != nil && pid != first {
			l = append(l, oom.Cand{Pid: pid, Resident: h.space.Resident(), Adjust: h.adjust})
		}
	}
	return l
}
