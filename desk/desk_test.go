package desk_test

import (
	"fmt"
	"strings"
	"testing"

	"almshouse/api"
	"almshouse/desk"
)

// 12.1: a text may have MaxText bytes, and not one more.
func TestTooLong(t *testing.T) {
	full := strings.Repeat("x", api.MaxText)
	whole(t, full, "error 3\n")
	whole(t, full+"x", "error 4\n")
	whole(t, full+"\n", "error 4\n")
	whole(t, full[1:]+"\n", "error 3\n")
	whole(t, strings.Repeat(" ", api.MaxText), "ok\n")
	whole(t, strings.Repeat(" ", api.MaxText+1), "error 4\n")
	whole(t, strings.Repeat("\n", api.MaxText), strings.Repeat("ok\n", api.MaxText))
	whole(t, strings.Repeat("\n", api.MaxText+1), "error 4\n")
	whole(t, strings.Repeat("free\n", api.MaxText/5), strings.Repeat("free 32 0 1\n", api.MaxText/5))
	whole(t, strings.Repeat("free\n", api.MaxText/5)+" ", "error 4\n")
	whole(t, strings.Repeat("free\n", 1_000_000), "error 4\n")
}

// Bytes are counted, not runes.
func TestTooLongInBytes(t *testing.T) {
	whole(t, strings.Repeat("é", api.MaxText/2), "error 3\n")
	whole(t, strings.Repeat("é", api.MaxText/2)+"x", "error 4\n")
	whole(t, strings.Repeat("\xff", api.MaxText), "error 3\n")
	whole(t, strings.Repeat("\xff", api.MaxText+1), "error 4\n")
}

// 12.1: lines are cut at line feeds; one at the end is left out; each is answered by a line.
func TestLines(t *testing.T) {
	for _, c := range [][2]string{
		{"", "ok\n"},
		{"\n", "ok\n"},
		{"\n\n", "ok\nok\n"},
		{"\n\n\n\n", "ok\nok\nok\nok\n"},
		{"free", "free 32 0 1\n"},
		{"free\n", "free 32 0 1\n"},
		{"free\n\n", "free 32 0 1\nok\n"},
		{"free\n\n\n", "free 32 0 1\nok\nok\n"},
		{"\nfree", "ok\nfree 32 0 1\n"},
		{"\n\nfree\n", "ok\nok\nfree 32 0 1\n"},
		{"free\npids", "free 32 0 1\npids 1 1\n"},
		{"free\n\npids\n", "free 32 0 1\nok\npids 1 1\n"},
		{"nothing\nfree\n", "error 3\nfree 32 0 1\n"},
		{"free\n ", "free 32 0 1\nok\n"},
		{"free\n \n", "free 32 0 1\nok\n"},
		{" \nfree", "ok\nfree 32 0 1\n"},
		{"free\r\npids\r\n", "error 3\nerror 3\n"},
		{"free\rpids", "error 3\n"},
		{"\r\n", "error 3\n"},
		{"1 fork\n1 fork", "fork 2\nfork 3\n"},
	} {
		whole(t, c[0], c[1])
	}
}

// 12.1: blanks stand between words, several, too, and at both ends.
func TestBlanks(t *testing.T) {
	for _, c := range [][2]string{
		{" ", "ok\n"},
		{"       ", "ok\n"},
		{"  \n   \n", "ok\nok\n"},
		{" free", "free 32 0 1\n"},
		{"free ", "free 32 0 1\n"},
		{"   free   ", "free 32 0 1\n"},
		{"has 1", "has 0 0 0\n"},
		{"  has    1  ", "has 0 0 0\n"},
		{"    1     fork   ", "fork 2\n"},
		{" 1  map  0   4    3 ", "map\n"},
		{"h as 1", "error 3\n"},
		{"1 fo rk", "error 3\n"},
		{"has1", "error 3\n"},
		{"1fork", "error 3\n"},
	} {
		whole(t, c[0], c[1])
	}
}

// All that is no blank and no line feed belongs to a word, however it looks.
func TestNoOtherBlanks(t *testing.T) {
	for _, s := range []string{"\t", "\r", "\v", "\f", "\x00", "\x85", "\xa0", "\u0085", "\u00a0", "\u1680", "\u2003", "\u2028", "\u3000", "\ufeff", "\u200b", "_", ","} {
		for _, line := range []string{s, s + "free", "free" + s, "has" + s + "1", "has 1" + s, s + "1 fork", "1" + s + "fork", "1 fork" + s, "1 " + s + " fork"} {
			whole(t, line, "error 3\n")
		}
		whole(t, "free "+s, "error 3\n")
		whole(t, "1 open /a"+s+" 3 y\n1 list /", "open 0\nlist a"+s+"\n")
	}
}

var (
	rightNumbers = []string{
		"0", "1", "-1", "2", "9", "10", "-10", "99", "100", "-100", "255", "256", "1000001", "2147483647", "2147483648", "-2147483648", "-2147483649", "4294967295", "4294967297",
		"9007199254740993", "9223372036854775806", "9223372036854775807", "-9223372036854775807", "-9223372036854775808",
	}
	wrongNumbers = []string{
		"-", "--1", "-0", "00", "-00", "01", "-01", "001", "000", "+1", "+0", "+", "-+1", "+-1", "1-", "1.", "1.0", ".1", "0.", "1e3", "1E3", "0x1", "0b1", "0o1", "0X1F", "1_0", "0_1", "_1", "1,0",
		"9223372036854775808", "-9223372036854775809", "18446744073709551615", "18446744073709551617", "99999999999999999999", "-99999999999999999999", "36893488147419103233", strings.Repeat("9", 400), "0" + strings.Repeat("0", 400),
		"x", "1x", "x1", "y", "n", "Inf", "NaN", "nil", "١", "１", "²", "1\x00", "\x001", "1\t", "1\r", "'1'", "\"1\"", "1%", "(1)",
	}
)

// 12.1: what a number is, at a line's beginning, behind new and has, and behind a call.
func TestNumbers(t *testing.T) {
	for _, n := range rightNumbers {
		if n != "1" && n != "2" {
			whole(t, n+" fork", "error 7\n")
			whole(t, "has "+n, "error 7\n")
		}
		whole(t, "1 fork\n2 exit "+n+"\n1 wait", "fork 2\nexit\nwait 2 "+n+"\n")
		whole(t, "1 map 0 1 3\n1 store 0 0 "+n+"\n1 load 0 0", "map\nstore\nload "+n+"\n")
	}
	for _, n := range wrongNumbers {
		whole(t, n+" fork", "error 3\n")
		whole(t, n, "error 3\n")
		whole(t, "has "+n, "error 3\n")
		whole(t, "new "+n, "error 3\n")
		whole(t, "1 fork\n2 exit "+n+"\n1 wait", "fork 2\nerror 3\nerror 6\n")
		whole(t, "1 map 0 1 3\n1 store 0 0 "+n+"\n1 load 0 0", "map\nerror 3\nload 0\n")
	}
}

// 12.1: Y is `y` or `n`.
func TestYesAndNo(t *testing.T) {
	says(t, `
		1 open /a 3 n   -> error 7
		1 open /a 3 y   -> open 0
		1 open /a 3 n   -> open 1
		1 mark 0 y      -> mark
		1 mark 1 y      -> mark
		1 mark 0 n      -> mark
		1 exec          -> exec
		1 close 1       -> error 7
		1 close 0       -> close`)
	for _, y := range []string{"Y", "N", "yes", "no", "yy", "yn", "0", "1", "-1", "true", "false", "x", "\"y\"", "y\r", "ý", "\x00", "Yy", "m", "o", "z", "y\x00"} {
		whole(t, "1 open /a 3 "+y+"\n1 list /", "error 3\nlist\n")
		whole(t, "1 open /a 3 y\n1 mark 0 "+y, "open 0\nerror 3\n")
		whole(t, "1 ignore 1 "+y, "error 3\n")
	}
}

// 12.1: all that is none of the lines is ErrForm.
func TestNoLine(t *testing.T) {
	for _, line := range []string{
		"nothing", "fork", "fork 1", "Free", "FREE", "fre", "frees", "freefree", "ok", "error", "error 3", "ended", "went", "exit", "map 0 1 3", "load 0 0", "list /", "wait", "y", "n", "-", "/", "pid", "New 4", "helps", "?", "has has", "new new", "\x00", "%", "\"", "\"free\"", "free\x00", "\xff\xfe", "free;pids", "#free", "//",
		"1", "1 1", "1 nothing", "1 1 fork", "1 free", "1 pids", "1 has 1", "1 new 4", "1 help", "1 Fork", "1 FORK", "1 forks", "1 for", "1 mapp 0 1 3", "1 file /a 3 y", "1 signal", "1 left", "1 /", "1 y",
	} {
		whole(t, line, "error 3\n")
		whole(t, line+"\nfree\npids", "error 3\nfree 32 0 1\npids 1 1\n")
	}
}

// 12.1: the lines that ask for no process have just so many words.
func TestThingsForm(t *testing.T) {
	for _, line := range []string{
		"free 1", "free free", "free x", "free 1 2", "pids 1", "pids x", "pids pids", "help help", "help 1", "help new", "help /",
		"new", "new 4 4", "new x", "new 4 x", "new y", "new -", "has", "has 1 1", "has x", "has 1 x", "has y", "has x 1",
	} {
		whole(t, line+"\nfree\npids", "error 3\nfree 32 0 1\npids 1 1\n")
	}
}

// 12.1: there is a kernel of 32 frames at first.
func TestFirstKernel(t *testing.T) {
	says(t, `
		free              -> free 32 0 1
		pids              -> pids 1 1
		has 1             -> has 0 0 0
		has 2             -> error 7
		1 map 0 33 3      -> map
		free              -> free 32 0 1`)
	var asked []string
	for i := range 33 {
		asked = append(asked, fmt.Sprintf("1 store %d 0 1", i))
	}
	got := answers(t, append([]string{"1 map 0 33 3"}, asked...))
	for i, s := range got[1:] {
		if want := map[bool]string{true: "store", false: "error 12"}[i < 32]; s != want {
			t.Errorf("store %d of 33 in a kernel of 32 frames: %q: want %q", i+1, s, want)
		}
	}
}

// Each session has a kernel of its own: nothing of one is left in the next one.
func TestSessionsShareNothing(t *testing.T) {
	text := "1 fork\n1 map 0 4 3\n1 store 0 0 5\n1 open /a 3 y\n1 write 0 hello\n1 limit 0 4\n1 ignore 3 y\n2 kill 1 4\npids\nfree\n"
	first := desk.Session(text)
	desk.Session("new 4\n" + text)
	if again := desk.Session(text); again != first {
		t.Errorf("the same session twice: %q, then %q", first, again)
	}
	whole(t, "free\npids\nhas 1\n1 list /", "free 32 0 1\npids 1 1\nhas 0 0 0\nlist\n")
}

// 12.1: free tells Left, Open, and Nodes.
func TestFree(t *testing.T) {
	says(t, `
		free              -> free 32 0 1
		1 map 0 8 3       -> map
		free              -> free 32 0 1
		1 store 0 0 1     -> store
		1 store 1 0 1     -> store
		free              -> free 30 0 1
		1 pipe            -> pipe 0 1
		free              -> free 30 2 1
		1 open /a 3 y     -> open 2
		1 mkdir /d        -> mkdir
		1 mkdir /e        -> mkdir
		free              -> free 30 3 4
		1 fork            -> fork 2
		free              -> free 30 3 4
		2 store 0 0 2     -> store
		free              -> free 29 3 4
		2 exit 0          -> exit
		free              -> free 30 3 4`)
}

// 12.1: pids tells each one's number and state, rising.
func TestPids(t *testing.T) {
	says(t, `
		pids      -> pids 1 1
		1 fork    -> fork 2
		2 fork    -> fork 3
		pids      -> pids 1 1 2 1 3 1
		2 exit 7  -> exit
		pids      -> pids 1 1 2 2 3 1
		3 exit 7  -> exit
		pids      -> pids 1 1 2 2 3 2
		1 wait    -> wait 2 7
		pids      -> pids 1 1 3 2
		1 fork    -> fork 2
		pids      -> pids 1 1 2 1 3 2
		1 wait    -> wait 3 7
		pids      -> pids 1 1 2 1`)
	all := "pids"
	for pid := 1; pid <= api.MaxProcs; pid++ {
		all += fmt.Sprint(" ", pid, " 1")
	}
	if got := last(t, append(repeat("1 fork", api.MaxProcs+3), "pids")...); got != all {
		t.Errorf("pids of all that there can be: %q: want %q", got, all)
	}
}

// 12.1: has tells pages, those of them that have a frame, and numbers. No signal comes for it.
func TestHas(t *testing.T) {
	says(t, `
		has 1             -> has 0 0 0
		1 map 3 5 3       -> map
		1 store 4 0 1     -> store
		1 store 5 0 1     -> store
		1 pipe            -> pipe 0 1
		1 dup 0           -> dup 2
		has 1             -> has 5 2 3
		1 fork            -> fork 2
		has 2             -> has 5 2 3
		2 exec            -> exec
		has 2             -> has 0 0 3
		has 1             -> has 5 2 3
		1 kill 2 3        -> kill
		has 2             -> has 0 0 3
		pids              -> pids 1 1 2 1
		2 fork            -> ended
		has 2             -> error 7
		1 wait            -> wait 2 103
		has 2             -> error 7
		has 0             -> error 7
		has -1            -> error 7`)
}

func TestHelp(t *testing.T) {
	whole(t, "help", helpText+"\n")
	whole(t, "1 fork\n  help \nhelp\n", "fork 2\n"+helpText+"\n"+helpText+"\n")
}

// 12.1: new lets there be a new kernel, of so many frames; of the old one nothing is left.
func TestNew(t *testing.T) {
	says(t, `
		1 fork            -> fork 2
		1 map 0 2 3       -> map
		1 store 0 0 1     -> store
		1 open /a 3 y     -> open 0
		1 limit 0 3       -> limit
		1 kill 1 3        -> kill
		free              -> free 31 1 2
		new 2             -> new
		free              -> free 2 0 1
		pids              -> pids 1 1
		has 1             -> has 0 0 0
		2 fork            -> error 7
		1 list /          -> list
		1 close 0         -> error 7
		1 load 0 0        -> error 7
		1 map 0 4 3       -> map
		1 store 0 0 1     -> store
		1 store 1 0 1     -> store
		1 store 2 0 1     -> error 12
		1 fork            -> fork 2
		new 256           -> new
		free              -> free 256 0 1
		new 1             -> new
		free              -> free 1 0 1
		new 32            -> new
		free              -> free 32 0 1`)
}

// A kernel that may not be is refused, and the old one stays as it is.
func TestNewRefused(t *testing.T) {
	for _, n := range []string{"0", "-1", "257", "-4", "512", "65537", "4294967297", "9223372036854775807", "-9223372036854775808"} {
		says(t, `
			new 5             -> new
			1 map 0 2 3       -> map
			1 store 1 2 77    -> store
			1 fork            -> fork 2
			1 kill 2 3        -> kill
			1 open /a 3 y     -> open 0
			new `+n+`         -> error 2
			free              -> free 4 1 2
			pids              -> pids 1 1 2 1
			1 load 1 2        -> load 77
			2 fork            -> ended`)
	}
}
