package kernel_test

import (
	"fmt"
	"maps"
	"slices"
	"strings"

	"almshouse/api"
)

// frame is a number that no other one has.
type frame struct{ number int }

// leaf is a page by the document's words: each has words of its own, shared or not.
type leaf struct {
	there bool
	prot  int
	frame *frame
	words [api.Words]int64
}

// item is a node of the tree: a directory has names.
type item struct {
	names map[string]*item
	text  string
}

type stream struct{ text string }

// thing is what is open: a file, or an end of a stream.
type thing struct {
	file   *item
	stream *stream
	kind   int
	prot   int
	place  int
}

type person struct {
	state, parent, code int
	ignored, waiting    [api.Signals + 1]bool
	leaves              [api.MaxPages]leaf
	things              [api.MaxFds]*thing
	marked              [api.MaxFds]bool
	most                [api.Limits]int
	adjust              int
}

// book is a kernel by the document's words. Nothing is counted: what is free, open, or there is looked for among those that run each time.
type book struct {
	frames int
	root   *item
	people map[int]*person
}

func newBook(frames int) *book {
	one := &person{state: api.Runs, most: [api.Limits]int{api.MaxPages, api.MaxFds, api.MaxFile}}
	return &book{frames: frames, root: &item{names: map[string]*item{}}, people: map[int]*person{1: one}}
}

func (b *book) pids() []int { return slices.Sorted(maps.Keys(b.people)) }

func (b *book) state(pid int) int {
	if p := b.people[pid]; p != nil {
		return p.state
	}
	return 0
}

func (b *book) runs(pid int) bool { return b.state(pid) == api.Runs }

// had is how many pages have each frame.
func (b *book) had() map[*frame]int {
	all := map[*frame]int{}
	for _, p := range b.people {
		for _, l := range p.leaves {
			if l.frame != nil {
				all[l.frame]++
			}
		}
	}
	return all
}

func (b *book) left() int { return b.frames - len(b.had()) }

func (b *book) open() map[*thing]bool {
	all := map[*thing]bool{}
	for _, p := range b.people {
		for _, x := range p.things {
			if x != nil {
				all[x] = true
			}
		}
	}
	return all
}

func (b *book) ends(s *stream, kind int) int {
	n := 0
	for x := range b.open() {
		if x.stream == s && x.kind == kind {
			n++
		}
	}
	return n
}

func (b *book) nodes() int {
	all := map[*item]bool{}
	var below func(x *item)
	below = func(x *item) {
		all[x] = true
		for _, y := range x.names {
			below(y)
		}
	}
	below(b.root)
	for x := range b.open() {
		if x.file != nil {
			all[x.file] = true
		}
	}
	return len(all)
}

func (p *person) counts() (pages, resident, fds int) {
	for _, l := range p.leaves {
		if l.there {
			pages++
		}
		if l.frame != nil {
			resident++
		}
	}
	for _, x := range p.things {
		if x != nil {
			fds++
		}
	}
	return pages, resident, fds
}

func (b *book) has(pid int) (pages, resident, fds int, e api.Errno) {
	if !b.runs(pid) {
		return 0, 0, 0, api.ErrMissing
	}
	pages, resident, fds = b.people[pid].counts()
	return pages, resident, fds, api.OK
}

// 11.2

func (b *book) end(pid, code int) {
	b.people[pid] = &person{state: api.Dead, parent: b.people[pid].parent, code: code}
	for _, p := range b.people {
		if p.parent == pid {
			p.parent = 1
		}
	}
}

func (b *book) signal(pid int) (bool, api.Errno) {
	if !b.runs(pid) {
		return false, api.ErrMissing
	}
	for sig := range b.people[pid].waiting {
		if b.people[pid].waiting[sig] && pid != 1 {
			b.end(pid, 100+sig)
			return true, api.OK
		}
		b.people[pid].waiting[sig] = false
	}
	return false, api.OK
}

func (b *book) fork(pid int) (int, api.Errno) {
	switch {
	case !b.runs(pid):
		return 0, api.ErrMissing
	case len(b.people) >= api.MaxProcs:
		return 0, api.ErrFull
	}
	child := 1
	for b.people[child] != nil {
		child++
	}
	c := *b.people[pid]
	c.parent, c.waiting = pid, [api.Signals + 1]bool{}
	b.people[child] = &c
	return child, api.OK
}

func (b *book) exit(pid, code int) api.Errno {
	switch {
	case !b.runs(pid):
		return api.ErrMissing
	case pid == 1:
		return api.ErrState
	}
	b.end(pid, code)
	return api.OK
}

func (b *book) exec(pid int) api.Errno {
	if !b.runs(pid) {
		return api.ErrMissing
	}
	p := b.people[pid]
	p.leaves = [api.MaxPages]leaf{}
	for n, yes := range p.marked {
		if yes {
			p.things[n], p.marked[n] = nil, false
		}
	}
	return api.OK
}

func (b *book) wait(pid int) (int, int, api.Errno) {
	if !b.runs(pid) {
		return 0, 0, api.ErrMissing
	}
	e := api.ErrNone
	for _, child := range b.pids() {
		c := b.people[child]
		if c.parent == pid && c.state == api.Dead {
			delete(b.people, child)
			return child, c.code, api.OK
		}
		if c.parent == pid {
			e = api.ErrState
		}
	}
	return 0, 0, e
}

func (b *book) kill(pid, other, sig int) api.Errno {
	switch {
	case !b.runs(pid):
		return api.ErrMissing
	case sig < 1 || sig > api.Signals:
		return api.ErrRange
	case !b.runs(other):
		return api.ErrMissing
	}
	p := b.people[other]
	p.waiting[sig] = p.waiting[sig] || !p.ignored[sig]
	return api.OK
}

func (b *book) ignore(pid, sig int, on bool) api.Errno {
	switch {
	case !b.runs(pid):
		return api.ErrMissing
	case sig < 1 || sig > api.Signals:
		return api.ErrRange
	case sig == api.Signals:
		return api.ErrState
	}
	p := b.people[pid]
	p.ignored[sig] = on
	p.waiting[sig] = p.waiting[sig] && !on
	return api.OK
}

func (b *book) limit(pid, kind, n int) api.Errno {
	switch {
	case !b.runs(pid):
		return api.ErrMissing
	case kind < 0 || kind >= api.Limits:
		return api.ErrArg
	case n < 0 || n > 1_000_000:
		return api.ErrRange
	}
	b.people[pid].most[kind] = n
	return api.OK
}

func (b *book) adjust(pid, n int) api.Errno {
	switch {
	case !b.runs(pid):
		return api.ErrMissing
	case n < -100 || n > 100:
		return api.ErrRange
	}
	b.people[pid].adjust = n
	return api.OK
}

// 11.3

// span are n leaves from at on: all of them, and how many are there.
func (b *book) span(pid, at, n int) (l []leaf, there int, e api.Errno) {
	if !b.runs(pid) {
		return nil, 0, api.ErrMissing
	}
	if n < 1 || at < 0 || at > api.MaxPages || n > api.MaxPages || at+n > api.MaxPages {
		return nil, 0, api.ErrRange
	}
	l = b.people[pid].leaves[at : at+n]
	for _, x := range l {
		if x.there {
			there++
		}
	}
	return l, there, api.OK
}

func (b *book) mapped(pid, at, n, prot int) api.Errno {
	l, there, e := b.span(pid, at, n)
	if e != api.OK {
		return e
	}
	p := b.people[pid]
	pages, _, _ := p.counts()
	switch {
	case prot < 1 || prot > 3:
		return api.ErrArg
	case there > 0:
		return api.ErrTwice
	case pages+n > p.most[api.Pages]:
		return api.ErrLimit
	}
	for i := range l {
		l[i] = leaf{there: true, prot: prot}
	}
	return api.OK
}

func (b *book) unmap(pid, at, n int) api.Errno {
	l, there, e := b.span(pid, at, n)
	switch {
	case e != api.OK:
		return e
	case there < n:
		return api.ErrMissing
	}
	clear(l)
	return api.OK
}

func (b *book) protect(pid, at, n, prot int) api.Errno {
	l, there, e := b.span(pid, at, n)
	switch {
	case e != api.OK:
		return e
	case prot < 1 || prot > 3:
		return api.ErrArg
	case there < n:
		return api.ErrMissing
	}
	for i := range l {
		l[i].prot = prot
	}
	return api.OK
}

func (b *book) usable(pid, at, w, use int) (*leaf, api.Errno) {
	l, there, e := b.span(pid, at, 1)
	switch {
	case e != api.OK || there == 0:
		return nil, api.ErrMissing
	case w < 0 || w >= api.Words:
		return nil, api.ErrRange
	case l[0].prot&use == 0:
		return nil, api.ErrFalse
	}
	return &l[0], api.OK
}

func (b *book) load(pid, at, w int) (int64, api.Errno) {
	l, e := b.usable(pid, at, w, api.Reads)
	if e != api.OK {
		return 0, e
	}
	return l.words[w], api.OK
}

func (b *book) store(pid, at, w int, v int64) (went []int, e api.Errno) {
	l, e := b.usable(pid, at, w, api.Writes)
	if e != api.OK {
		return nil, e
	}
	for l.frame == nil || b.had()[l.frame] > 1 {
		if b.left() > 0 {
			l.frame = &frame{}
			break
		}
		who := b.heaviest()
		if who == 0 {
			return went, api.ErrFull
		}
		b.end(who, 108)
		went = append(went, who)
		if who == pid {
			return went, api.ErrOrder
		}
	}
	l.words[w] = v
	return went, api.OK
}

// heaviest is who goes (0: nobody).
func (b *book) heaviest() int {
	who, most := 0, 1
	for _, pid := range b.pids() {
		p := b.people[pid]
		_, resident, _ := p.counts()
		if weight := resident * (100 + p.adjust); pid != 1 && weight >= most {
			who, most = pid, weight
		}
	}
	return who
}

// 11.4

// dear tells whether n more numbers are more than a process may have.
func (p *person) dear(n int) bool {
	_, _, fds := p.counts()
	return fds+n > p.most[api.Fds]
}

// take lets the least free number be of a thing.
func (p *person) take(x *thing) int {
	n := slices.Index(p.things[:], nil)
	p.things[n] = x
	return n
}

// full tells that n numbers are not free, or that there would be too many things.
func (b *book) full(p *person, n int) bool {
	_, _, fds := p.counts()
	return fds+n > api.MaxFds || len(b.open())+n > api.MaxOpen
}

func (b *book) file(pid int, path string, prot int, makes bool) (int, api.Errno) {
	p := b.people[pid]
	switch {
	case !b.runs(pid):
		return 0, api.ErrMissing
	case p.dear(1):
		return 0, api.ErrLimit
	case prot < 1 || prot > 3:
		return 0, api.ErrArg
	case b.full(p, 1):
		return 0, api.ErrFull
	}
	x, e := b.find(path)
	if e == api.ErrMissing && makes {
		x = &item{}
		e = b.add(path, x)
	}
	if e != api.OK {
		return 0, e
	}
	if x.names != nil {
		return 0, api.ErrState
	}
	return p.take(&thing{file: x, kind: api.File, prot: prot}), api.OK
}

func (b *book) pipe(pid int) (int, int, api.Errno) {
	p := b.people[pid]
	switch {
	case !b.runs(pid):
		return 0, 0, api.ErrMissing
	case p.dear(2):
		return 0, 0, api.ErrLimit
	case b.full(p, 2):
		return 0, 0, api.ErrFull
	}
	s := &stream{}
	from := p.take(&thing{stream: s, kind: api.From, prot: api.Reads})
	return from, p.take(&thing{stream: s, kind: api.Into, prot: api.Writes}), api.OK
}

// thing is what a number of a process is of (nil: it is free).
func (p *person) thing(n int) *thing {
	if n < 0 || n >= api.MaxFds {
		return nil
	}
	return p.things[n]
}

func (b *book) dup(pid, n int) (int, api.Errno) {
	p := b.people[pid]
	switch {
	case !b.runs(pid):
		return 0, api.ErrMissing
	case p.dear(1):
		return 0, api.ErrLimit
	case p.thing(n) == nil:
		return 0, api.ErrMissing
	case !slices.Contains(p.things[:], nil):
		return 0, api.ErrFull
	}
	return p.take(p.things[n]), api.OK
}

func (b *book) dup2(pid, n, to int) api.Errno {
	p := b.people[pid]
	switch {
	case !b.runs(pid) || p.thing(n) == nil:
		return api.ErrMissing
	case to < 0 || to >= api.MaxFds:
		return api.ErrRange
	case p.things[to] == nil && p.dear(1):
		return api.ErrLimit
	case n != to:
		p.things[to], p.marked[to] = p.things[n], false
	}
	return api.OK
}

func (b *book) mark(pid, n int, closes bool) api.Errno {
	p := b.people[pid]
	if !b.runs(pid) || p.thing(n) == nil {
		return api.ErrMissing
	}
	p.marked[n] = closes
	return api.OK
}

func (b *book) close(pid, n int) api.Errno {
	p := b.people[pid]
	if !b.runs(pid) || p.thing(n) == nil {
		return api.ErrMissing
	}
	p.things[n], p.marked[n] = nil, false
	return api.OK
}

func (b *book) read(pid, n, many int) (string, api.Errno) {
	p := b.people[pid]
	if !b.runs(pid) || p.thing(n) == nil {
		return "", api.ErrMissing
	}
	x := p.things[n]
	switch {
	case x.prot&api.Reads == 0:
		return "", api.ErrFalse
	case many < 0:
		return "", api.ErrRange
	case x.file != nil:
		rest := x.file.text[min(x.place, len(x.file.text)):]
		s := rest[:min(many, len(rest))]
		x.place += len(s)
		return s, api.OK
	case many > 0 && x.stream.text == "" && b.ends(x.stream, api.Into) > 0:
		return "", api.ErrNone
	}
	s := x.stream.text[:min(many, len(x.stream.text))]
	x.stream.text = x.stream.text[len(s):]
	return s, api.OK
}

func (b *book) write(pid, n int, s string) (int, api.Errno) {
	p := b.people[pid]
	if !b.runs(pid) || p.thing(n) == nil {
		return 0, api.ErrMissing
	}
	x := p.things[n]
	switch {
	case x.prot&api.Writes == 0:
		return 0, api.ErrFalse
	case x.file != nil && s != "" && x.place+len(s) > min(p.most[api.Bytes], api.MaxFile):
		return 0, api.ErrLimit
	case x.file != nil && s == "":
		return 0, api.OK
	case x.file != nil:
		t := x.file.text + strings.Repeat("\x00", max(0, x.place+len(s)-len(x.file.text)))
		x.file.text = t[:x.place] + s + t[x.place+len(s):]
		x.place += len(s)
		return len(s), api.OK
	case b.ends(x.stream, api.From) == 0:
		p.waiting[5] = p.waiting[5] || !p.ignored[5]
		return 0, api.ErrDevice
	case s != "" && len(x.stream.text) == api.PipeBytes:
		return 0, api.ErrFull
	}
	many := min(len(s), api.PipeBytes-len(x.stream.text))
	x.stream.text += s[:many]
	return many, api.OK
}

func (b *book) seek(pid, n, at int) api.Errno {
	p := b.people[pid]
	switch {
	case !b.runs(pid) || p.thing(n) == nil:
		return api.ErrMissing
	case p.things[n].file == nil:
		return api.ErrState
	case at < 0 || at > api.MaxFile:
		return api.ErrRange
	}
	p.things[n].place = at
	return api.OK
}

// split are the names of a path; false: it is none.
func split(path string) ([]string, bool) {
	if path == "/" {
		return nil, true
	}
	l := strings.Split(path, "/")
	for _, name := range l[1:] {
		if name == "" || name == "." || name == ".." || len(name) > api.MaxName {
			return nil, false
		}
	}
	return l[1:], l[0] == "" && len(l) > 1
}

func (b *book) lead(names []string) (*item, api.Errno) {
	x := b.root
	for _, name := range names {
		if x.names == nil {
			return nil, api.ErrState
		}
		if x = x.names[name]; x == nil {
			return nil, api.ErrMissing
		}
	}
	return x, api.OK
}

func (b *book) find(path string) (*item, api.Errno) {
	l, ok := split(path)
	if !ok {
		return nil, api.ErrArg
	}
	return b.lead(l)
}

// where is a path's place: the names of its directory, and its last name.
func (b *book) where(path string) (map[string]*item, string, api.Errno) {
	l, ok := split(path)
	if !ok || len(l) == 0 {
		return nil, "", api.ErrArg
	}
	x, e := b.lead(l[:len(l)-1])
	if e == api.OK && x.names == nil {
		e = api.ErrState
	}
	if e != api.OK {
		return nil, "", e
	}
	return x.names, l[len(l)-1], api.OK
}

// add puts a new item at a path.
func (b *book) add(path string, x *item) api.Errno {
	names, name, e := b.where(path)
	switch {
	case e != api.OK:
		return e
	case names[name] != nil:
		return api.ErrTwice
	case b.nodes() >= api.MaxNodes:
		return api.ErrFull
	}
	names[name] = x
	return api.OK
}

func (b *book) mkdir(pid int, path string) api.Errno {
	if !b.runs(pid) {
		return api.ErrMissing
	}
	return b.add(path, &item{names: map[string]*item{}})
}

func (b *book) link(pid int, old, path string) api.Errno {
	if !b.runs(pid) {
		return api.ErrMissing
	}
	x, e := b.find(old)
	switch {
	case e != api.OK:
		return e
	case x.names != nil:
		return api.ErrState
	}
	names, name, e := b.where(path)
	switch {
	case e != api.OK:
		return e
	case names[name] != nil:
		return api.ErrTwice
	}
	names[name] = x
	return api.OK
}

func (b *book) unlink(pid int, path string) api.Errno {
	if !b.runs(pid) {
		return api.ErrMissing
	}
	names, name, e := b.where(path)
	switch {
	case e != api.OK:
		return e
	case names[name] == nil:
		return api.ErrMissing
	case len(names[name].names) > 0:
		return api.ErrState
	}
	delete(names, name)
	return api.OK
}

func (b *book) rename(pid int, old, path string) api.Errno {
	if !b.runs(pid) {
		return api.ErrMissing
	}
	from, name, e := b.where(old)
	switch {
	case e != api.OK:
		return e
	case from[name] == nil:
		return api.ErrMissing
	}
	to, last, e := b.where(path)
	switch {
	case e != api.OK:
		return e
	case to[last] != nil:
		return api.ErrTwice
	case strings.HasPrefix(path, old+"/"):
		return api.ErrState
	}
	to[last] = from[name]
	delete(from, name)
	return api.OK
}

func (b *book) list(pid int, path string) ([]string, api.Errno) {
	if !b.runs(pid) {
		return nil, api.ErrMissing
	}
	x, e := b.find(path)
	switch {
	case e != api.OK:
		return nil, e
	case x.names == nil:
		return nil, api.ErrState
	}
	return slices.Sorted(maps.Keys(x.names)), api.OK
}

// seen is the text that seen tells of a kernel.
func (b *book) seen() string {
	var s strings.Builder
	fmt.Fprintln(&s, b.left(), len(b.open()), b.nodes(), b.pids())
	for _, pid := range b.pids() {
		pages, resident, fds, e := b.has(pid)
		fmt.Fprintln(&s, pid, b.state(pid), pages, resident, fds, e)
		for at := range api.MaxPages {
			if _, e := b.load(pid, at, 0); e == api.ErrMissing {
				continue
			}
			fmt.Fprint(&s, "page ", at, ":")
			for w := range api.Words {
				v, e := b.load(pid, at, w)
				fmt.Fprint(&s, " ", v, e)
			}
			fmt.Fprintln(&s)
		}
	}
	return s.String() + b.names("")
}

func (b *book) names(dir string) string {
	path := dir
	if dir == "" {
		path = "/"
	}
	l, e := b.list(1, path)
	s := fmt.Sprintln(path, l, e)
	for _, name := range l {
		s += b.names(dir + "/" + name)
	}
	return s
}
