package desk

import "strings"

// allCalls are what a process may ask.
func (c *clerk) allCalls() table {
	return table{
		"adjust":  {"N", c.adjust},
		"close":   {"N", c.close},
		"dup":     {"N", c.dup},
		"dup2":    {"NN", c.dup2},
		"exec":    {"", c.exec},
		"exit":    {"N", c.exit},
		"fork":    {"", c.fork},
		"ignore":  {"NY", c.ignore},
		"kill":    {"NN", c.kill},
		"limit":   {"NN", c.limit},
		"link":    {"TT", c.link},
		"list":    {"T", c.list},
		"load":    {"NN", c.load},
		"map":     {"NNN", c.mapPages},
		"mark":    {"NY", c.mark},
		"mkdir":   {"T", c.mkdir},
		"open":    {"TNY", c.open},
		"pipe":    {"", c.pipe},
		"protect": {"NNN", c.protect},
		"read":    {"NN", c.read},
		"rename":  {"TT", c.rename},
		"seek":    {"NN", c.seek},
		"store":   {"NNN", c.store},
		"unlink":  {"T", c.unlink},
		"unmap":   {"NN", c.unmap},
		"wait":    {"", c.wait},
		"write":   {"NT", c.write},
	}
}

func (c *clerk) fork(a args) string {
	child, err := c.kernel.Fork(a.pid)
	return a.told(err, child)
}

func (c *clerk) exit(a args) string {
	return a.told(c.kernel.Exit(a.pid, a.numbers[0]))
}

func (c *clerk) exec(a args) string {
	return a.told(c.kernel.Exec(a.pid))
}

func (c *clerk) wait(a args) string {
	child, code, err := c.kernel.Wait(a.pid)
	return a.told(err, child, code)
}

func (c *clerk) kill(a args) string {
	return a.told(c.kernel.Kill(a.pid, a.numbers[0], a.numbers[1]))
}

func (c *clerk) ignore(a args) string {
	return a.told(c.kernel.Ignore(a.pid, a.numbers[0], a.on))
}

func (c *clerk) limit(a args) string {
	return a.told(c.kernel.Limit(a.pid, a.numbers[0], a.numbers[1]))
}

func (c *clerk) adjust(a args) string {
	return a.told(c.kernel.Adjust(a.pid, a.numbers[0]))
}

func (c *clerk) mapPages(a args) string {
	return a.told(c.kernel.Map(a.pid, a.numbers[0], a.numbers[1], a.numbers[2]))
}

func (c *clerk) unmap(a args) string {
	return a.told(c.kernel.Unmap(a.pid, a.numbers[0], a.numbers[1]))
}

func (c *clerk) protect(a args) string {
	return a.told(c.kernel.Protect(a.pid, a.numbers[0], a.numbers[1], a.numbers[2]))
}

func (c *clerk) load(a args) string {
	v, err := c.kernel.Load(a.pid, a.numbers[0], a.numbers[1])
	return a.told(err, int(v))
}

// store tells those that went, also where it is not done.
func (c *clerk) store(a args) string {
	went, err := c.kernel.Store(a.pid, a.numbers[0], a.numbers[1], int64(a.numbers[2]))
	if err != nil && len(went) > 0 {
		panic(lost{went, err})
	}
	return a.told(err, went...)
}

func (c *clerk) open(a args) string {
	n, err := c.kernel.File(a.pid, a.texts[0], a.numbers[0], a.on)
	return a.told(err, n)
}

func (c *clerk) pipe(a args) string {
	from, into, err := c.kernel.Pipe(a.pid)
	return a.told(err, from, into)
}

func (c *clerk) dup(a args) string {
	to, err := c.kernel.Dup(a.pid, a.numbers[0])
	return a.told(err, to)
}

func (c *clerk) dup2(a args) string {
	return a.told(c.kernel.Dup2(a.pid, a.numbers[0], a.numbers[1]))
}

func (c *clerk) mark(a args) string {
	return a.told(c.kernel.Mark(a.pid, a.numbers[0], a.on))
}

func (c *clerk) close(a args) string {
	return a.told(c.kernel.Close(a.pid, a.numbers[0]))
}

func (c *clerk) read(a args) string {
	s, err := c.kernel.Read(a.pid, a.numbers[0], a.numbers[1])
	return a.told(err) + " " + shown(s)
}

func (c *clerk) write(a args) string {
	n, err := c.kernel.Write(a.pid, a.numbers[0], a.texts[0])
	return a.told(err, n)
}

func (c *clerk) seek(a args) string {
	return a.told(c.kernel.Seek(a.pid, a.numbers[0], a.numbers[1]))
}

func (c *clerk) mkdir(a args) string {
	return a.told(c.kernel.Mkdir(a.pid, a.texts[0]))
}

func (c *clerk) link(a args) string {
	return a.told(c.kernel.Link(a.pid, a.texts[0], a.texts[1]))
}

func (c *clerk) unlink(a args) string {
	return a.told(c.kernel.Unlink(a.pid, a.texts[0]))
}

func (c *clerk) rename(a args) string {
	return a.told(c.kernel.Rename(a.pid, a.texts[0], a.texts[1]))
}

func (c *clerk) list(a args) string {
	names, err := c.kernel.List(a.pid, a.texts[0])
	return strings.Join(append([]string{a.told(err)}, names...), " ")
}
