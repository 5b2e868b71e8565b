package desk

import (
	"strings"

	"almshouse/api"
	"almshouse/kernel"
)

// clerk answers lines, and does what they ask.
type clerk struct {
	kernel *kernel.Kernel
	things table // what lines ask of the kernel
	calls  table // what they ask for a process
}

// table has, by its word, what may be asked.
type table map[string]ask

// ask is one thing that may be asked.
type ask struct {
	form string // of the words behind its own, a letter each: see parse
	tell func(a args) string
}

// newClerk is at a kernel. What may be asked is bound to the clerk, not to the kernel: a line may ask for another one.
func newClerk(k *kernel.Kernel) *clerk {
	c := &clerk{kernel: k}
	c.things, c.calls = c.allThings(), c.allCalls()
	return c
}

// answer does what a line asks. What is wrong is thrown wherever it is seen, and told here.
func (c *clerk) answer(line string) (said string) {
	defer func() {
		if err, ok := recover().(error); ok {
			said = refusal(err)
		}
	}()
	words := strings.FieldsFunc(line, isBlank)
	if len(words) == 0 {
		return "ok"
	}
	if pid, ok := number(words[0]); ok {
		return c.serve(pid, words[1:])
	}
	asked := c.things.find(words)
	return asked.tell(parse(asked.form, words))
}

// serve does what a process asks. Its signals come to it ahead of that, but behind a call that is none; with a call, even when its other words are wrong.
func (c *clerk) serve(pid int, words []string) string {
	asked := c.calls.find(words)
	ended, err := c.kernel.Signal(pid)
	check(err)
	if ended {
		return "ended"
	}
	a := parse(asked.form, words)
	a.pid = pid
	return asked.tell(a)
}

// find is what the first word asks. It throws ErrForm.
func (t table) find(words []string) ask {
	if len(words) == 0 {
		panic(api.ErrForm)
	}
	asked, ok := t[words[0]]
	if !ok {
		panic(api.ErrForm)
	}
	return asked
}

// check throws what is wrong.
func check(err error) {
	if err != nil {
		panic(err)
	}
}
