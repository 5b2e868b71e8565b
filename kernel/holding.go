package kernel

import (
	"almshouse/acct"
	"almshouse/api"
	"almshouse/desc"
	"almshouse/vm"
)

const first = 1 // the process that is there always: no signal ends it, and it never goes for want of memory

// holding is what a process has.
type holding struct {
	space  *vm.Space
	table  *desc.Table
	ledger acct.Ledger // of Pages and Fds it tells what there is in space and table
	adjust int
}

// newHolding has nothing, and may have all.
func newHolding(store *vm.Store) (*holding, error) {
	space, err := vm.New(store)
	if err != nil {
		return nil, err
	}
	h := &holding{space: space, table: &desc.Table{}}
	for kind, most := range [api.Limits]int{api.Pages: api.MaxPages, api.Fds: api.MaxFds, api.Bytes: api.MaxFile} {
		if err := h.ledger.Limit(kind, most); err != nil {
			return nil, err
		}
	}
	return h, nil
}

// fork is the same once more. The ledger is a copy: each one tells what its own process has.
func (h *holding) fork(files *desc.Files) *holding {
	return &holding{space: h.space.Fork(), table: files.Fork(h.table), ledger: h.ledger, adjust: h.adjust}
}

// clear takes all away that others could want.
func (h *holding) clear(files *desc.Files) {
	h.space.Clear()
	files.Clear(h.table)
}

// charge puts n more of a kind into the ledger. ErrLimit: that would be more than may be.
func (h *holding) charge(kind, n int) error {
	if err := h.ledger.Charge([]acct.Ask{{Kind: kind, N: n}}); err != nil {
		return api.Tell(err) // without the place that it has in the list
	}
	return nil
}

// settle lets the ledger tell what there is, behind a call that took something away. Less is never refused.
func (h *holding) settle() {
	_ = h.charge(api.Pages, h.space.Len()-h.ledger.Used(api.Pages))
	_ = h.charge(api.Fds, h.table.Used()-h.ledger.Used(api.Fds))
}

// payFirst does what costs n of a kind: ErrLimit comes ahead of what else is wrong with it.
func (h *holding) payFirst(kind, n int, does func() error) error {
	before := h.ledger
	if err := h.charge(kind, n); err != nil {
		return err
	}
	if err := does(); err != nil {
		h.ledger = before
		return err
	}
	return nil
}

// payLast does what costs n of a kind: ErrLimit comes behind what else is wrong with it, and then it is undone.
func (h *holding) payLast(kind, n int, does, undoes func() error) error {
	if err := does(); err != nil {
		return err
	}
	if err := h.charge(kind, n); err != nil {
		_ = undoes()
		return err
	}
	return nil
}
