package desk_test

import (
	"fmt"
	"strings"
	"testing"

	"almshouse/desk"
)

// die has numbers that look drawn, the same each time.
type die uint64

func (d *die) below(n int) int {
	*d = *d*6364136223846793005 + 1442695040888963407
	return int(uint64(*d>>33) % uint64(n))
}

// rarely is true once in n times.
func (d *die) rarely(n int) bool { return d.below(n) == 0 }

// of is one of a list.
func of[T any](d *die, l []T) T { return l[d.below(len(l))] }

// number is mostly one that is right somewhere.
func (d *die) number() string {
	if d.rarely(60) {
		return of(d, []string{"64", "100", "-1", "-100", "-0", "00", "01", "+1", "-", "x", "", "9223372036854775807", "-9223372036854775808", "9223372036854775808", "-9223372036854775809", "1 1", "y"})
	}
	return fmt.Sprint(d.below(1 + d.below(10)))
}

func (d *die) yes() string {
	if d.rarely(40) {
		return of(d, []string{"Y", "", "yes", "1", "y n", "\xff"})
	}
	return of(d, []string{"y", "n"})
}

func (d *die) text() string {
	return of(d, []string{"/a", "/b", "/d", "/d/a", "/d/b", "/d/e", "/", "/12", "/\xff", "x", "hello", "a%b\"c", "\x00\x01", "-1", "y", "/a", "/d", "/b"})
}

// line is one, mostly right.
func (d *die) line() string {
	form := of(d, strings.Split(thingLines, ", "))
	switch {
	case d.rarely(60):
		return of(d, []string{"", "   ", "nothing", "1", " 2 ", "1 nothing", "2 nothing 1", "01 fork", "-1 fork", "99999999999999999999 fork", "1 free", "fork", "free x", "pids 1", "1\tfork", "\t", "-0 fork", "help help"})
	case form == "new N" && !d.rarely(12):
		form = "free"
	case !d.rarely(6):
		form = fmt.Sprint(1+d.below(1+d.below(5)), " ", of(d, strings.Split(callLines, ", ")))
	}
	var s strings.Builder
	for i, w := range strings.Fields(form) {
		if i > 0 || d.rarely(30) {
			s.WriteString(strings.Repeat(" ", 1+d.below(2)))
		}
		switch w {
		case "N":
			w = d.number()
		case "Y":
			w = d.yes()
		case "T":
			w = d.text()
		}
		s.WriteString(w)
	}
	return s.String() + of(d, []string{"", "", "", " ", "  ", " x"}[:3+d.below(40)/37*3])
}

// session is lines: at first such as let there be something.
func (d *die) session() string {
	s := of(d, []string{"", "new 3\n", "new 5\n", "new 8\n"}) + "1 fork\n1 map 0 6 3\n1 open /a 3 y\n1 mkdir /d\n2 map 0 6 3\n2 pipe\n2 fork\n3 fork\n"
	for range d.below(200) {
		s += d.line() + "\n"
	}
	return s[d.below(3)/2*d.below(len(s)):]
}

// Sessions that look drawn are answered as the book answers them.
func TestWalk(t *testing.T) {
	d := die(12)
	seen := map[string]int{}
	for range 800 {
		text := d.session()
		got, want := desk.Session(text), newBook().session(text)
		if got != want {
			t.Fatalf("%s", difference(text, got, want))
		}
		for line := range strings.Lines(got) {
			seen[strings.TrimSpace(strings.SplitAfter(line, " ")[0])]++
			if strings.HasPrefix(line, "error ") {
				seen[strings.TrimSpace(line)]++
			}
		}
	}
	for _, w := range append(strings.Fields(strings.ReplaceAll(helpText, "/", "")), "ok", "ended", "went", "error 1", "error 2", "error 3", "error 4", "error 6", "error 7", "error 8", "error 9", "error 10", "error 12", "error 13", "error 14") {
		if seen[w] == 0 && w != "help" && w != "error 10" {
			t.Errorf("the walk never comes by %q: %v", w, seen)
		}
	}
}

// difference tells the first line that is answered otherwise.
func difference(text, got, want string) string {
	asked, g, w := strings.Split(text, "\n"), strings.Split(got, "\n"), strings.Split(want, "\n")
	for i, line := range asked {
		if i >= len(g) || i >= len(w) || g[i] != w[i] {
			return fmt.Sprintf("%q\nline %d, %q: %q: want %q", text, i+1, line, g[min(i, len(g)-1)], w[min(i, len(w)-1)])
		}
	}
	return fmt.Sprintf("%q: %q: want %q", text, got, want)
}

// Pieces of lines, put together as they come, are answered as the book answers them.
func TestWalkOfBytes(t *testing.T) {
	d := die(5)
	pieces := []string{" ", "\n", "1", "2", "-", "0", "fork", "free", "1 fork", "2 exit 3", "1 wait", "pids", "has", "new", "\x00", "\t", "\r", "\xff", "é", "%", "\"", "x", "y", "\n1 write 0 ", "\n1 read 0 3\n", "\n1 pipe\n"}
	for range 3000 {
		var s strings.Builder
		for range d.below(40) {
			s.WriteString(of(&d, pieces))
		}
		got, want := desk.Session(s.String()), newBook().session(s.String())
		if got != want {
			t.Fatalf("%s", difference(s.String(), got, want))
		}
	}
}
