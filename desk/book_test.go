package desk_test

import (
	"fmt"
	"math/big"
	"regexp"
	"strings"

	"almshouse/api"
	"almshouse/kernel"
)

// The lines as the document's tables tell them.
const (
	thingLines = "new N, free, pids, has N, help"
	callLines  = "map N N N, protect N N N, unmap N N, exec, exit N, kill N N, ignore N Y, limit N N, adjust N, dup2 N N, mark N Y, close N, seek N N, mkdir T, unlink T, link T T, rename T T, " +
		"load N N, fork, open T N Y, pipe, dup N, write N T, wait, store N N N, read N N, list T"
)

// book answers lines, too, by other ways than desk does: each line is held against patterns that are made of the document's tables.
type book struct {
	k *kernel.Kernel
}

// form is a line of the tables, and a pattern with a group for each of its words.
type form struct {
	words   []string
	pattern *regexp.Regexp
}

var (
	thingForms = formsOf(thingLines, "")
	callForms  = formsOf(callLines, "N ")
	// begins is a number, and a word that is a call.
	begins = regexp.MustCompile(`^ *(0|-?[1-9][0-9]*) +(` + strings.Join(firstWords(callLines), "|") + `)( .*)?$`)
)

func newBook() *book {
	k, err := kernel.New(32)
	if err != nil {
		panic(err)
	}
	return &book{k: k}
}

func formsOf(lines, ahead string) (l []form) {
	for _, line := range strings.Split(lines, ", ") {
		l = append(l, formOf(ahead+line))
	}
	return l
}

func firstWords(lines string) (l []string) {
	for _, line := range strings.Split(lines, ", ") {
		l = append(l, strings.Fields(line)[0])
	}
	return l
}

func formOf(line string) form {
	var l []string
	for _, w := range strings.Fields(line) {
		switch w {
		case "N":
			w = "0|-?[1-9][0-9]*"
		case "Y":
			w = "y|n"
		case "T":
			w = "[^ ]+"
		}
		l = append(l, "("+w+")")
	}
	return form{strings.Fields(line), regexp.MustCompile(`^ *` + strings.Join(l, " +") + ` *$`)}
}

// matched are a line's words, if they are of one of the forms.
func matched(forms []form, line string) []string {
	for _, f := range forms {
		if words := f.pattern.FindStringSubmatch(line); words != nil && f.fits(words[1:]) {
			return words[1:]
		}
	}
	return nil
}

// fits is true if all numbers are of 64 bits.
func (f form) fits(words []string) bool {
	for i, w := range f.words {
		if w == "N" && !fits(words[i]) {
			return false
		}
	}
	return true
}

func fits(number string) bool {
	n, ok := new(big.Int).SetString(number, 10)
	return ok && n.IsInt64()
}

// session answers a whole text.
func (b *book) session(text string) string {
	if len(text) > 20000 {
		return "error 4\n"
	}
	if strings.HasSuffix(text, "\n") {
		text = text[:len(text)-1]
	}
	var s strings.Builder
	for _, line := range strings.Split(text, "\n") {
		s.WriteString(b.answer(line) + "\n")
	}
	return s.String()
}

func (b *book) answer(line string) string {
	if strings.Trim(line, " ") == "" {
		return "ok"
	}
	if words := matched(thingForms, line); words != nil {
		return b.thing(words)
	}
	begin := begins.FindStringSubmatch(line)
	if begin == nil || !fits(begin[1]) {
		return "error 3"
	}
	ended, err := b.k.Signal(int(value(begin[1])))
	if err != nil {
		return fails(err)
	}
	if ended {
		return "ended"
	}
	words := matched(callForms, line)
	if words == nil {
		return "error 3"
	}
	return b.call(int(value(words[0])), words[1:])
}

func value(word string) int64 {
	n, ok := new(big.Int).SetString(word, 10)
	if !ok {
		return 0
	}
	return n.Int64()
}

func fails(err error) string { return fmt.Sprintf("error %d", api.Tell(err)) }

// tells is the word, and what comes of it.
func tells(word string, err error, l ...any) string {
	if err != nil {
		return fails(err)
	}
	return strings.TrimSuffix(word+" "+fmt.Sprintln(l...), "\n")
}

func (b *book) thing(words []string) string {
	switch words[0] {
	case "new":
		k, err := kernel.New(int(value(words[1])))
		if err == nil {
			b.k = k
		}
		return word("new", err)
	case "free":
		return tells("free", nil, b.k.Left(), b.k.Open(), b.k.Nodes())
	case "pids":
		s := "pids"
		for _, pid := range b.k.Pids() {
			s += fmt.Sprintf(" %d %d", pid, b.k.State(pid))
		}
		return s
	case "has":
		pages, resident, fds, err := b.k.Has(int(value(words[1])))
		return tells("has", err, pages, resident, fds)
	}
	return helpText
}

// word is the word alone.
func word(w string, err error) string {
	if err != nil {
		return fails(err)
	}
	return w
}

func (b *book) call(pid int, words []string) string {
	w := words[0]
	words = append(words[1:], "", "", "")
	n := [3]int{int(value(words[0])), int(value(words[1])), int(value(words[2]))}
	switch w {
	case "fork":
		child, err := b.k.Fork(pid)
		return tells(w, err, child)
	case "wait":
		child, code, err := b.k.Wait(pid)
		return tells(w, err, child, code)
	case "load":
		v, err := b.k.Load(pid, n[0], n[1])
		return tells(w, err, v)
	case "store":
		return b.store(pid, n[0], n[1], value(words[2]))
	case "open":
		fd, err := b.k.File(pid, words[0], n[1], words[2] == "y")
		return tells(w, err, fd)
	case "pipe":
		from, into, err := b.k.Pipe(pid)
		return tells(w, err, from, into)
	case "dup":
		to, err := b.k.Dup(pid, n[0])
		return tells(w, err, to)
	case "write":
		many, err := b.k.Write(pid, n[0], words[1])
		return tells(w, err, many)
	case "read":
		s, err := b.k.Read(pid, n[0], n[1])
		return tells(w, err, quoted(s))
	case "list":
		l, err := b.k.List(pid, words[0])
		return word(strings.TrimSpace(w+" "+strings.Join(l, " ")), err)
	}
	return word(w, b.done(pid, w, words, n))
}

// done does what is told by its word alone.
func (b *book) done(pid int, w string, words []string, n [3]int) error {
	switch w {
	case "map":
		return b.k.Map(pid, n[0], n[1], n[2])
	case "protect":
		return b.k.Protect(pid, n[0], n[1], n[2])
	case "unmap":
		return b.k.Unmap(pid, n[0], n[1])
	case "exec":
		return b.k.Exec(pid)
	case "exit":
		return b.k.Exit(pid, n[0])
	case "kill":
		return b.k.Kill(pid, n[0], n[1])
	case "ignore":
		return b.k.Ignore(pid, n[0], words[1] == "y")
	case "limit":
		return b.k.Limit(pid, n[0], n[1])
	case "adjust":
		return b.k.Adjust(pid, n[0])
	case "dup2":
		return b.k.Dup2(pid, n[0], n[1])
	case "mark":
		return b.k.Mark(pid, n[0], words[1] == "y")
	case "close":
		return b.k.Close(pid, n[0])
	case "seek":
		return b.k.Seek(pid, n[0], n[1])
	case "mkdir":
		return b.k.Mkdir(pid, words[0])
	case "unlink":
		return b.k.Unlink(pid, words[0])
	case "link":
		return b.k.Link(pid, words[0], words[1])
	}
	return b.k.Rename(pid, words[0], words[1])
}

func (b *book) store(pid, at, w int, v int64) string {
	went, err := b.k.Store(pid, at, w, v)
	s := strings.TrimSuffix(strings.Trim(fmt.Sprint(went), "[]"), " ")
	switch {
	case err != nil && len(went) > 0:
		return "went " + s + " " + fails(err)
	case err != nil:
		return fails(err)
	}
	return strings.TrimSpace("store " + s)
}

func quoted(s string) string {
	q := `"`
	for _, c := range []byte(s) {
		if strings.IndexByte("!\"#$&'()*+,-./0123456789:;<=>?@ABCDEFGHIJKLMNOPQRSTUVWXYZ[\\]^_`abcdefghijklmnopqrstuvwxyz{|}~", c) < 0 {
			q += fmt.Sprintf("%%%02x", c)
		} else {
			q += string([]byte{c})
		}
	}
	return q + `"`
}
