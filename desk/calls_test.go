package desk_test

import (
	"fmt"
	"strings"
	"testing"

	"almshouse/api"
)

// The document's example.
func TestExample(t *testing.T) {
	whole(t, "1 fork", "fork 2\n")
}

// 12.2: fork, exit, wait.
func TestProcesses(t *testing.T) {
	says(t, `
		1 wait            -> error 8
		1 fork            -> fork 2
		1 wait            -> error 6
		2 wait            -> error 8
		2 fork            -> fork 3
		1 fork            -> fork 4
		1 exit 0          -> error 6
		1 exit 1          -> error 6
		2 exit -5         -> exit
		2 exit 1          -> error 7
		2 fork            -> error 7
		3 exit 9          -> exit
		1 wait            -> wait 2 -5
		1 wait            -> wait 3 9
		1 wait            -> error 6
		4 exit 0          -> exit
		1 wait            -> wait 4 0
		1 wait            -> error 8
		4 wait            -> error 7
		1 fork            -> fork 2`)
	if got := last(t, repeat("1 fork", api.MaxProcs)...); got != "error 12" {
		t.Errorf("fork of %d processes: %q: want error 12", api.MaxProcs+1, got)
	}
}

// 12.2: map, unmap, protect, load, and a store for which nobody goes.
func TestMemory(t *testing.T) {
	says(t, `
		1 map 0 4 3       -> map
		1 map 3 2 1       -> error 9
		1 map 64 1 3      -> error 2
		1 map 4 0 3       -> error 2
		1 map 4 1 0       -> error 1
		1 map 4 1 4       -> error 1
		1 map 64 1 4      -> error 2
		1 map 3 1 4       -> error 1
		1 map 10 1 1      -> map
		1 map 11 1 2      -> map
		has 1             -> has 6 0 0
		1 load 0 0        -> load 0
		1 store 0 7 -12   -> store
		1 store 1 0 9223372036854775807  -> store
		1 store 1 1 -9223372036854775808 -> store
		1 load 0 7        -> load -12
		1 load 1 0        -> load 9223372036854775807
		1 load 1 1        -> load -9223372036854775808
		1 load 0 6        -> load 0
		1 load 0 8        -> error 2
		1 load 0 -1       -> error 2
		1 load 9 0        -> error 7
		1 load 9 8        -> error 7
		1 load 11 0       -> error 13
		1 store 0 8 1     -> error 2
		1 store 9 0 1     -> error 7
		1 store 10 0 1    -> error 13
		1 store 11 0 1    -> store
		1 protect 0 2 1   -> protect
		1 store 0 0 1     -> error 13
		1 load 0 7        -> load -12
		1 protect 1 1 2   -> protect
		1 load 1 0        -> error 13
		1 store 1 0 4     -> store
		1 protect 9 1 1   -> error 7
		1 protect 9 1 4   -> error 1
		1 protect 9 0 4   -> error 2
		has 1             -> has 6 3 0
		1 unmap 0 2       -> unmap
		1 unmap 0 1       -> error 7
		1 unmap 0 0       -> error 2
		has 1             -> has 4 1 0`)
}

// Each number goes where it belongs: no two of a call stand for one another.
func TestNumbersInOrder(t *testing.T) {
	says(t, `
		1 map 5 2 1       -> map
		1 load 5 0        -> load 0
		1 load 6 0        -> load 0
		1 load 2 0        -> error 7
		1 store 5 2 1     -> error 13
		1 protect 6 1 2   -> protect
		1 load 5 0        -> load 0
		1 load 6 0        -> error 13
		1 store 6 3 4     -> store
		1 protect 6 1 3   -> protect
		1 load 6 3        -> load 4
		1 load 6 4        -> load 0
		1 unmap 5 1       -> unmap
		has 1             -> has 1 1 0
		1 open /a 1 y     -> open 0
		1 open /a 2 n     -> open 1
		1 write 1 abc     -> write 3
		1 read 0 2        -> read "ab"
		1 seek 0 1        -> seek
		1 read 0 2        -> read "bc"
		1 dup2 0 6        -> dup2
		1 seek 6 2        -> seek
		1 read 0 9        -> read "c"
		1 link /a /b      -> link
		1 rename /a /c    -> rename
		1 list /          -> list b c
		1 fork            -> fork 2
		1 fork            -> fork 3
		1 kill 3 2        -> kill
		2 exec            -> exec
		3 exec            -> ended
		1 limit 1 7       -> limit
		1 limit 0 3       -> limit
		1 map 10 3 3      -> error 4
		1 map 10 2 3      -> map
		1 dup 0           -> dup 2
		1 dup 0           -> dup 3
		1 dup 0           -> dup 4
		1 dup 0           -> dup 5
		1 dup 0           -> error 4`)
}

// 12.2: store tells those that went, in order.
func TestStoreForWhichSomeGo(t *testing.T) {
	says(t, `
		new 4             -> new
		1 map 0 6 3       -> map
		1 fork            -> fork 2
		1 fork            -> fork 3
		1 fork            -> fork 4
		2 store 0 0 1     -> store
		3 store 0 0 1     -> store
		4 store 0 0 1     -> store
		1 store 0 0 1     -> store
		4 adjust -50      -> adjust
		free              -> free 0 0 1
		1 store 1 0 1     -> store 3
		1 store 1 0 2     -> store
		1 store 2 0 1     -> store 2
		pids              -> pids 1 1 2 2 3 2 4 1
		1 wait            -> wait 2 108
		1 wait            -> wait 3 108
		1 store 3 0 1     -> store 4
		1 store 4 0 1     -> error 12
		1 load 3 0        -> load 1
		1 load 4 0        -> load 0`)
}

// Of several that go for one store each is told. Those that share a frame free it only together.
func TestStoreForWhichSeveralGo(t *testing.T) {
	says(t, `
		new 2             -> new
		1 map 0 6 3       -> map
		1 fork            -> fork 2
		2 store 0 0 5     -> store
		2 store 1 0 5     -> store
		2 fork            -> fork 3
		2 fork            -> fork 4
		3 adjust 10       -> adjust
		free              -> free 0 0 1
		1 store 5 1 9     -> store 3 4 2
		free              -> free 1 0 1
		pids              -> pids 1 1 2 2 3 2 4 2
		1 load 5 1        -> load 9`)
}

// 12.2: if some went, and it is not done all the same: went, they, error, and its number.
func TestStoreThatFailsAndSomeGo(t *testing.T) {
	says(t, `
		new 2             -> new
		1 map 0 6 3       -> map
		1 fork            -> fork 2
		2 store 0 0 5     -> store
		2 fork            -> fork 3
		1 store 0 0 1     -> store
		free              -> free 0 0 1
		3 adjust -100     -> adjust
		2 store 1 0 1     -> went 2 error 10
		free              -> free 0 0 1
		pids              -> pids 1 1 2 2 3 1
		3 store 1 0 1     -> error 12
		3 load 1 0        -> load 0
		3 load 0 0        -> load 5
		1 store 1 0 7     -> error 12
		3 adjust 0        -> adjust
		3 store 1 0 1     -> went 3 error 10
		1 store 1 0 7     -> store`)
	says(t, `
		new 1             -> new
		1 map 0 6 3       -> map
		1 fork            -> fork 2
		2 store 0 0 5     -> store
		2 fork            -> fork 3
		2 fork            -> fork 4
		2 fork            -> fork 5
		3 adjust -100     -> adjust
		4 adjust 7        -> adjust
		1 store 2 0 1     -> went 4 5 2 error 12
		pids              -> pids 1 1 2 2 3 1 4 2 5 2
		free              -> free 0 0 1
		1 load 2 0        -> load 0
		1 store 2 0 1     -> error 12
		3 load 0 0        -> load 5`)
	says(t, `
		new 1             -> new
		1 map 0 6 3       -> map
		1 fork            -> fork 2
		2 store 0 0 5     -> store
		2 fork            -> fork 3
		2 fork            -> fork 4
		3 adjust -1       -> adjust
		3 store 2 0 1     -> went 4 2 3 error 10
		pids              -> pids 1 1 2 2 3 2 4 2
		free              -> free 1 0 1`)
}

// 12.2: kill, ignore, and what Signal tells: ended, and who is asked does nothing.
func TestSignals(t *testing.T) {
	says(t, `
		1 fork            -> fork 2
		1 kill 2 3        -> kill
		pids              -> pids 1 1 2 1
		2 mkdir /d        -> ended
		1 list /          -> list
		pids              -> pids 1 1 2 2
		2 mkdir /d        -> error 7
		1 wait            -> wait 2 103
		1 fork            -> fork 2
		1 kill 2 8        -> kill
		1 kill 2 5        -> kill
		1 kill 2 1        -> kill
		2 kill 1 2        -> ended
		1 wait            -> wait 2 101
		1 fork            -> fork 2
		2 kill 2 4        -> kill
		2 wait            -> ended
		1 kill 2 4        -> error 7
		1 wait            -> wait 2 104
		1 kill 1 8        -> kill
		1 kill 1 1        -> kill
		1 fork            -> fork 2
		1 kill 2 0        -> error 2
		1 kill 2 9        -> error 2
		1 kill 9 1        -> error 7
		1 kill 9 9        -> error 2
		2 ignore 3 y      -> ignore
		2 ignore 8 y      -> error 6
		2 ignore 8 n      -> error 6
		2 ignore 0 y      -> error 2
		2 ignore 9 n      -> error 2
		1 kill 2 3        -> kill
		2 fork            -> fork 3
		1 kill 3 3        -> kill
		3 ignore 3 n      -> ignore
		1 kill 3 3        -> kill
		3 exec            -> ended
		2 exec            -> exec
		pids              -> pids 1 1 2 1 3 2`)
}

// Each call of a process that a signal ends is answered `ended`, and not done.
func TestSignalAheadOfEachCall(t *testing.T) {
	for call, words := range examples {
		for sig := 1; sig <= api.Signals; sig++ {
			asked := []string{"1 fork", fmt.Sprint("1 kill 2 ", sig), "2 " + call + words, "pids", "1 wait", "free", "pids", "1 list /"}
			compare(t, asked, answers(t, asked), []string{"fork 2", "kill", "ended", "pids 1 1 2 2", fmt.Sprint("wait 2 ", 100+sig), "free 32 0 1", "pids 1 1", "list"})
		}
	}
}

// A process that is dead, or none, is told so for each call, whatever else is wrong with it.
func TestNobodyAsks(t *testing.T) {
	for call, words := range examples {
		for _, pid := range []string{"0", "-1", "2", "3", "24", "25", "4294967297", "9223372036854775807", "-9223372036854775808"} {
			asked := []string{"1 fork", "2 exit 0", pid + " " + call + words, pid + " " + call + words + " more", "free", "pids", "1 list /"}
			compare(t, asked, answers(t, asked), []string{"fork 2", "exit", "error 7", "error 7", "free 32 0 1", "pids 1 1 2 2", "list"})
		}
	}
}

// 12.2: limit and adjust, and what they are for.
func TestLimits(t *testing.T) {
	says(t, `
		1 limit 0 2       -> limit
		1 limit 3 2       -> error 1
		1 limit -1 2      -> error 1
		1 limit 0 -1      -> error 2
		1 limit 0 1000001 -> error 2
		1 limit 3 -1      -> error 1
		1 map 0 3 3       -> error 4
		1 map 0 2 3       -> map
		1 limit 1 1       -> limit
		1 pipe            -> error 4
		1 open /a 3 y     -> open 0
		1 open /a 3 y     -> error 4
		1 dup 0           -> error 4
		1 dup2 0 1        -> error 4
		1 limit 2 5       -> limit
		1 write 0 hello   -> write 5
		1 write 0 !       -> error 4
		1 adjust 100      -> adjust
		1 adjust 101      -> error 2
		1 adjust -100     -> adjust
		1 adjust -101     -> error 2
		1 limit 0 1000000 -> limit
		1 limit 0 0       -> limit
		1 map 4 1 3       -> error 4`)
}

// 12.2: open, and the numbers of what is open.
func TestNumbersOfFiles(t *testing.T) {
	says(t, `
		1 open /a 3 n     -> error 7
		1 open /a 3 y     -> open 0
		1 open /a 1 n     -> open 1
		1 open /a 0 y     -> error 1
		1 open /a 4 y     -> error 1
		1 open a 3 y      -> error 1
		1 open / 3 y      -> error 6
		1 open /a/b 3 y   -> error 6
		1 open /x/b 3 y   -> error 7
		1 open /a 2 n     -> open 2
		1 pipe            -> pipe 3 4
		1 dup 1           -> dup 5
		1 dup 6           -> error 7
		1 dup 0           -> dup 6
		1 pipe            -> error 4
		1 limit 1 99      -> limit
		1 pipe            -> error 12
		1 dup 0           -> dup 7
		1 dup 0           -> error 12
		1 open /a 3 y     -> error 12
		1 close 1         -> close
		1 close 1         -> error 7
		1 close -1        -> error 7
		1 dup2 1 0        -> error 7
		1 dup2 0 8        -> error 2
		1 dup2 0 -1       -> error 2
		1 dup2 0 0        -> dup2
		1 dup2 0 1        -> dup2
		1 dup2 3 7        -> dup2
		1 mark 1 y        -> mark
		1 close 1         -> close
		1 mark 1 y        -> error 7
		1 mark 0 y        -> mark
		1 mark 2 y        -> mark
		1 mark 2 n        -> mark
		1 exec            -> exec
		1 close 0         -> error 7
		1 close 2         -> close
		has 1             -> has 0 0 5`)
}

// Of all that may be there at once there is no more: nodes, and what is open.
func TestFull(t *testing.T) {
	var asked []string
	for i := range api.MaxNodes {
		asked = append(asked, fmt.Sprintf("1 mkdir /%d", i))
	}
	if got := last(t, asked...); got != "error 12" {
		t.Errorf("mkdir of %d directories: %q: want error 12", api.MaxNodes+1, got)
	}
	if got := last(t, append(asked, "1 open /a 3 y")...); got != "error 12" {
		t.Errorf("open of a file that is made, and no node is free: %q: want error 12", got)
	}
	asked = nil
	for pid := 1; pid <= api.MaxOpen/api.MaxFds; pid++ {
		asked = append(append(asked, "1 fork"), repeat(fmt.Sprint(pid+1, " pipe"), api.MaxFds/2)...)
	}
	if got := last(t, append(asked, "free", "1 pipe")...); got != "error 12" {
		t.Errorf("pipe with %d entries: %q: want error 12", api.MaxOpen, got)
	}
	if got := last(t, append(asked, "2 close 0", "1 open /a 3 y", "1 open /a 3 n")...); got != "error 12" {
		t.Errorf("open with %d entries: %q: want error 12", api.MaxOpen, got)
	}
}

// 12.2: read, write and seek, of files and pipes.
func TestBytes(t *testing.T) {
	says(t, `
		1 open /a 3 y     -> open 0
		1 open /a 1 n     -> open 1
		1 open /a 2 n     -> open 2
		1 read 0 9        -> read ""
		1 read 0 0        -> read ""
		1 write 0 hello   -> write 5
		1 read 0 9        -> read ""
		1 seek 0 1        -> seek
		1 read 0 3        -> read "ell"
		1 read 0 3        -> read "o"
		1 read 0 -1       -> error 2
		1 read 2 1        -> error 13
		1 read 9 1        -> error 7
		1 read 9 -1       -> error 7
		1 write 1 x       -> error 13
		1 write 9 x       -> error 7
		1 seek 0 7        -> seek
		1 write 0 z       -> write 1
		1 read 1 99       -> read "hello%00%00z"
		1 seek 0 -1       -> error 2
		1 seek 0 201      -> error 2
		1 seek 0 200      -> seek
		1 write 0 x       -> error 4
		1 seek 9 0        -> error 7
		1 pipe            -> pipe 3 4
		1 seek 3 0        -> error 6
		1 read 3 1        -> error 8
		1 write 4 0123456789abcdefgh -> write 16
		1 write 4 x       -> error 12
		1 read 3 4        -> read "0123"
		1 write 3 x       -> error 13
		1 read 4 1        -> error 13
		1 read 3 99       -> read "456789abcdef"
		1 close 4         -> close
		1 read 3 1        -> read ""`)
}

// What is told is not what is asked again: words are written as they are.
func TestWordsAreAsTheyAre(t *testing.T) {
	says(t, `
		1 open /a 3 y     -> open 0
		1 write 0 %41     -> write 3
		1 write 0 "b"     -> write 3
		1 write 0 12      -> write 2
		1 write 0 -1      -> write 2
		1 write 0 y       -> write 1
		1 write 0 1       -> write 1
		1 seek 0 0        -> seek
		1 read 0 99       -> read "%2541"b"12-1y1"`)
}

// A write into a pipe from which nobody reads is refused, and a signal waits for who wrote.
func TestDevice(t *testing.T) {
	says(t, `
		1 pipe            -> pipe 0 1
		1 fork            -> fork 2
		1 close 0         -> close
		2 write 1 x       -> write 1
		2 close 0         -> close
		2 write 1 x       -> error 14
		pids              -> pids 1 1 2 1
		2 write 1 x       -> ended
		1 wait            -> wait 2 105
		1 write 1 x       -> error 14
		1 write 1 x       -> error 14`)
}

// 12.2: mkdir, link, unlink, rename, list.
func TestNames(t *testing.T) {
	says(t, `
		1 list /          -> list
		1 mkdir /d        -> mkdir
		1 mkdir /d        -> error 9
		1 mkdir /         -> error 1
		1 mkdir d         -> error 1
		1 mkdir /x/d      -> error 7
		1 mkdir /.        -> error 1
		1 list /d         -> list
		1 list /          -> list d
		1 open /d/a 3 y   -> open 0
		1 mkdir /d/a/b    -> error 6
		1 link /d/a /b    -> link
		1 link /d/a /b    -> error 9
		1 link /d /c      -> error 6
		1 link /x /c      -> error 7
		1 link x /c       -> error 1
		1 link /b c       -> error 1
		1 list /          -> list b d
		1 list /d         -> list a
		1 list /b         -> error 6
		1 list /x         -> error 7
		1 list x          -> error 1
		1 unlink /d       -> error 6
		1 unlink /x       -> error 7
		1 unlink /        -> error 1
		1 rename /d /d/e  -> error 6
		1 rename /d /b    -> error 9
		1 rename /x /y    -> error 7
		1 rename / /y     -> error 1
		1 rename /d y     -> error 1
		1 rename /d /a    -> rename
		1 list /          -> list a b
		1 unlink /a/a     -> unlink
		1 unlink /a       -> unlink
		1 list /          -> list b
		1 mkdir /123      -> mkdir
		1 mkdir /-1       -> mkdir
		1 mkdir /123/y    -> mkdir
		1 mkdir 123       -> error 1
		1 list /          -> list -1 123 b
		1 list /123       -> list y
		1 open /45 3 y    -> open 1
		1 rename /45 /3   -> rename
		1 list /          -> list -1 123 3 b`)
}

// Names are told as they are, whatever their bytes are, in the order of these.
func TestNamesOfAllBytes(t *testing.T) {
	asked, want := []string{}, "list"
	for c := 1; c < 256; c++ {
		if c == ' ' || c == '\n' || c == '/' || c == '.' {
			continue
		}
		name := string([]byte{byte(c)})
		asked, want = append(asked, "1 mkdir /"+name), want+" "+name
		if len(asked) == api.MaxNodes-1 {
			if got := last(t, append(asked, "1 list /")...); got != want {
				t.Errorf("names up to %d: %q: want %q", c, got, want)
			}
			asked, want = nil, "list"
		}
	}
	if got := last(t, append(asked, "1 mkdir /\x00", "1 list /")...); got != "list \x00"+want[4:] {
		t.Errorf("the last names, and 0: %q", got)
	}
}

// 12.2: those from 33 to 126, but %, are shown as they are, others as % and two digits.
func TestShownBytes(t *testing.T) {
	for c := range 256 {
		if c == ' ' || c == '\n' {
			continue // these end a word: nobody can write them
		}
		shown := string([]byte{byte(c)})
		if c < 33 || c > 126 || c == '%' {
			shown = fmt.Sprintf("%%%02x", c)
		}
		word := string([]byte{byte(c)})
		whole(t, "1 open /a 3 y\n1 write 0 "+word+"\n1 seek 0 0\n1 read 0 9", "open 0\nwrite 1\nseek\nread \""+shown+"\"\n")
		whole(t, "1 pipe\n1 write 1 a"+word+word+"b\n1 read 0 9", "pipe 0 1\nwrite 4\nread \"a"+shown+shown+"b\"\n")
	}
	whole(t, "1 open /a 3 y\n1 write 0 \u00e9\u2003\xff\n1 seek 0 0\n1 read 0 9", "open 0\nwrite 6\nseek\nread \"%c3%a9%e2%80%83%ff\"\n")
}

// All that a file may have is shown, however much of it is no letter.
func TestShownMuch(t *testing.T) {
	text := "1 open /a 3 y\n1 write 0 " + strings.Repeat("\x80", api.MaxFile) + "\n1 seek 0 0\n1 read 0 9223372036854775807\n"
	whole(t, text, "open 0\nwrite 200\nseek\nread \""+strings.Repeat("%80", api.MaxFile)+"\"\n")
}
