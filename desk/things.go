package desk

import "almshouse/kernel"

// allThings are the lines that ask for no process.
func (c *clerk) allThings() table {
	return table{
		"free": {"", c.free},
		"has":  {"N", c.has},
		"help": {"", c.help},
		"new":  {"N", c.renew},
		"pids": {"", c.pids},
	}
}

func (c *clerk) free(a args) string {
	return a.told(nil, c.kernel.Left(), c.kernel.Open(), c.kernel.Nodes())
}

func (c *clerk) has(a args) string {
	pages, resident, fds, err := c.kernel.Has(a.numbers[0])
	return a.told(err, pages, resident, fds)
}

func (c *clerk) help(args) string {
	return "free has help new pids / adjust close dup dup2 exec exit fork ignore kill limit link list load map mark mkdir open pipe protect read rename seek store unlink unmap wait write"
}

func (c *clerk) renew(a args) string {
	k, err := kernel.New(a.numbers[0])
	check(err) // the old one stays then
	c.kernel = k
	return a.told(nil)
}

func (c *clerk) pids(a args) string {
	var l []int
	for _, pid := range c.kernel.Pids() {
		l = append(l, pid, c.kernel.State(pid))
	}
	return a.told(nil, l...)
}
