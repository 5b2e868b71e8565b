package desk_test

import (
	"strings"
	"testing"

	"almshouse/desk"
)

// helpText is what `help` tells.
const helpText = "free has help new pids / adjust close dup dup2 exec exit fork ignore kill limit link list load map mark mkdir open pipe protect read rename seek store unlink unmap wait write"

// answers are a session's, of lines.
func answers(t *testing.T, asked []string) []string {
	t.Helper()
	got := desk.Session(strings.Join(asked, "\n") + "\n")
	if !strings.HasSuffix(got, "\n") {
		t.Fatalf("Session(%.100q) ends without a line feed: %.100q", asked, got)
	}
	l := strings.Split(strings.TrimSuffix(got, "\n"), "\n")
	if len(l) != len(asked) {
		t.Fatalf("Session of %d lines: %d answers: %.300q", len(asked), len(l), l)
	}
	return l
}

// compare tells which lines are answered otherwise than is wanted.
func compare(t *testing.T, asked, got, want []string) {
	t.Helper()
	for i, line := range asked {
		if got[i] != want[i] {
			t.Errorf("line %d, %.80q: %.300q: want %.300q", i+1, line, got[i], want[i])
		}
	}
}

// says holds a script against one session: of each line what is asked, "->", and what that is answered.
func says(t *testing.T, script string) {
	t.Helper()
	var asked, want []string
	for line := range strings.SplitSeq(strings.TrimSpace(script), "\n") {
		a, w, ok := strings.Cut(line, "->")
		if !ok {
			t.Fatalf("no answer in the script's line %q", line)
		}
		asked, want = append(asked, strings.TrimSpace(a)), append(want, strings.TrimSpace(w))
	}
	compare(t, asked, answers(t, asked), want)
}

// whole holds a session's whole answer against what is wanted.
func whole(t *testing.T, text, want string) {
	t.Helper()
	if got := desk.Session(text); got != want {
		t.Errorf("Session(%.100q): %.300q: want %.300q", text, got, want)
	}
}

// last is the answer to the last line of all.
func last(t *testing.T, lines ...string) string {
	t.Helper()
	l := answers(t, lines)
	return l[len(l)-1]
}

// repeat is one line n times.
func repeat(line string, n int) []string {
	l := make([]string, n)
	for i := range l {
		l[i] = line
	}
	return l
}
