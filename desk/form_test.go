package desk_test

import (
	"strings"
	"testing"
)

// examples are the calls, each with words that are right for it.
var examples = map[string]string{
	"map": " 0 1 3", "protect": " 0 1 3", "unmap": " 0 1", "exec": "", "exit": " 3", "kill": " 1 1", "ignore": " 1 y", "limit": " 0 3", "adjust": " 5", "dup2": " 0 1", "mark": " 0 n", "close": " 0", "seek": " 0 1", "mkdir": " /d", "unlink": " /a", "link": " /a /b", "rename": " /a /b",
	"load": " 0 0", "fork": "", "open": " /n 3 y", "pipe": "", "dup": " 0", "write": " 0 z", "wait": "",
	"store": " 0 0 4", "read": " 0 1", "list": " /",
}

// forms tell of each call what its words are: N, Y or T.
var forms = map[string]string{
	"map": "NNN", "protect": "NNN", "unmap": "NN", "exec": "", "exit": "N", "kill": "NN", "ignore": "NY", "limit": "NN", "adjust": "N", "dup2": "NN", "mark": "NY", "close": "N", "seek": "NN", "mkdir": "T", "unlink": "T", "link": "TT", "rename": "TT",
	"load": "NN", "fork": "", "open": "TNY", "pipe": "", "dup": "N", "write": "NT", "wait": "",
	"store": "NNN", "read": "NN", "list": "T",
}

// wrongWords are the words of a call with one wrong, all wrong, one too few, none, or too many.
func wrongWords(call string) []string {
	right := strings.Fields(examples[call])
	with := func(i int, w string) string {
		l := append([]string{}, right...)
		l[i] = w
		return strings.Join(l, " ")
	}
	var l []string
	for i, kind := range forms[call] {
		for _, w := range []string{"x", "y1", "-0", "00", "01", "+1", "-", "1.0", "9223372036854775808", "-9223372036854775809", "Y", "yes"} {
			if kind != 'T' {
				l = append(l, with(i, w))
			}
		}
		if kind == 'N' {
			l = append(l, with(i, "y"), with(i, "/a"))
		}
		if kind == 'Y' {
			l = append(l, with(i, "1"), with(i, "0"))
		}
		l = append(l, strings.Join(append(append([]string{}, right[:i]...), right[i+1:]...), " "))
		l = append(l, strings.Join(right[:i], " "))
	}
	if strings.ContainsAny(forms[call], "NY") {
		l = append(l, strings.TrimSpace(strings.Repeat("x ", len(right))))
	}
	for _, more := range []string{"1", "y", "x", "/", "1 1", call} {
		l = append(l, strings.Join(append(append([]string{}, right...), more), " "))
		l = append(l, strings.Join(append([]string{more}, right...), " "))
	}
	return l
}

// scene is what a line is asked in: process 2 has of all something, and a signal waits for it; for 1 none waits.
var scene = []string{"1 map 0 2 3", "1 store 0 0 9", "1 open /a 3 y", "1 write 0 abc", "1 seek 0 0", "1 mkdir /e", "1 fork", "2 pipe", "2 adjust 5", "1 fork", "3 exit 6", "1 kill 2 4"}

// look asks for all that one line could have changed.
var look = []string{"free", "pids", "has 1", "has 2", "1 list /", "1 list /e", "1 load 0 0", "1 load 1 0", "1 read 0 2", "1 seek 0 5", "1 read 1 1", "1 wait", "1 wait", "1 pipe", "1 map 2 62 3", "1 dup 0", "1 dup 0", "1 dup 0", "1 dup 0", "1 dup 0", "1 exec", "has 1", "1 fork", "pids", "free"}

// lookBehind is what look tells behind lines of the scene and these.
func lookBehind(t *testing.T, lines ...string) string {
	t.Helper()
	asked := append(append([]string{}, scene...), lines...)
	return strings.Join(answers(t, append(asked, look...))[len(asked):], "\n")
}

// behindScene is the answer to a line in the scene.
func behindScene(t *testing.T, line string) string {
	t.Helper()
	return last(t, append(append([]string{}, scene...), line)...)
}

// The examples are right: what is wrong with them else, it is not their form, and they do what they ask.
func TestExamplesAreRight(t *testing.T) {
	for call, words := range examples {
		if got := behindScene(t, "1 "+call+words); got == "error 3" {
			t.Errorf("1 %s%s: %q", call, words, got)
		}
		if len(strings.Fields(words)) != len(forms[call]) {
			t.Errorf("%s%s: not of the form %s", call, words, forms[call])
		}
	}
	if !strings.HasSuffix(lookBehind(t), "free 31 5 3") {
		t.Errorf("the scene, looked at: %s", lookBehind(t))
	}
	for _, call := range strings.Fields(helpText[strings.Index(helpText, "/")+1:]) {
		if _, ok := forms[call]; !ok {
			t.Errorf("%s is told by help, and not asked here", call)
		}
	}
}

// 12.1, 12.2: a call with words that are wrong is ErrForm, and changes nothing.
func TestCallForm(t *testing.T) {
	same := lookBehind(t)
	for call := range forms {
		for _, words := range wrongWords(call) {
			line := "1 " + call + " " + words
			if got := behindScene(t, line); got != "error 3" {
				t.Errorf("%s: %q: want error 3", line, got)
			}
			if got := lookBehind(t, line); got != same {
				t.Errorf("%s changes what there is: %q: was %q", line, got, same)
			}
		}
	}
}

// 12.2: a call's own ErrForm is told behind Signal: what waits comes ahead of it, and who does not run is told so.
func TestCallFormBehindSignal(t *testing.T) {
	ended := lookBehind(t, "2 exec")
	for call := range forms {
		for _, words := range wrongWords(call) {
			line := call + " " + words
			if got := behindScene(t, "2 "+line); got != "ended" {
				t.Errorf("2 %s: %q: a signal waits for it", line, got)
			}
			if got := lookBehind(t, "2 "+line); got != ended {
				t.Errorf("2 %s does more than to end: %q: want %q", line, got, ended)
			}
			for _, pid := range []string{"3 ", "9 ", "0 ", "-7 "} {
				if got := behindScene(t, pid+line); got != "error 7" {
					t.Errorf("%s%s: %q: want error 7", pid, line, got)
				}
			}
		}
	}
}

// 12.2: without a word behind the number, or with one that is no call, it is ErrForm ahead of Signal: none is taken, whoever it is.
func TestNoCallAheadOfSignal(t *testing.T) {
	same := lookBehind(t)
	for _, words := range []string{"", "nothing", "free", "pids", "has", "has 1", "new", "new 4", "help", "2", "2 fork", "1", "y", "Fork", "fork1", "forks", "fork\t", "/", "signal", "%", "\x00", "nothing 1 2", "-", "execfork"} {
		for _, pid := range []string{"1", "2", "3", "9", "0", "-1"} {
			line := pid + " " + words
			if got := behindScene(t, line); got != "error 3" {
				t.Errorf("%q: %q: want error 3", line, got)
			}
			if got := lookBehind(t, line, line); got != same {
				t.Errorf("%q changes what there is: %q: was %q", line, got, same)
			}
		}
	}
	if got := last(t, append(append([]string{}, scene...), "2", "2 nothing", "pids", "2 exec")...); got != "ended" {
		t.Errorf("2 exec, with a signal that waits: %q", got)
	}
}

// Signals of 1 that wait are taken ahead of a line that is wrong, and do not end it.
func TestSignalsOfTheFirst(t *testing.T) {
	says(t, `
		1 kill 1 3        -> kill
		1 kill 1 8        -> kill
		1 fork x          -> error 3
		1 kill 1 x        -> error 3
		1                 -> error 3
		1 fork            -> fork 2
		1 kill 1 9        -> error 2
		pids              -> pids 1 1 2 1`)
}
