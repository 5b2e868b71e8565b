package tree_test

import (
	"fmt"
	"regexp"
	"slices"
	"strings"
	"testing"
	"unsafe"

	"almshouse/api"
	"almshouse/tree"
)

func TestANewTreeIsADirectoryWithoutNames(t *testing.T) {
	r := tree.New()
	nodes(t, "new", r, 1)
	finds(t, r, "/", 0)
	lists(t, r, "/")
	refusesAll(t, r, 0, api.ErrState)
	for n := 1; n <= api.MaxNodes; n++ {
		gone(t, r, n)
	}
	refusesFind(t, r, "/a", api.ErrMissing)
	refusesList(t, r, "/a", api.ErrMissing)
}

func TestPathsLeadFromNameToName(t *testing.T) {
	r := tree.New()
	path := ""
	for depth := 1; depth <= 6; depth++ {
		path += "/d"
		if n := mkdir(t, r, path); n != depth {
			t.Errorf("Mkdir(%q): %d: want %d", path, n, depth)
		}
	}
	if n := create(t, r, path+"/f"); n != 7 {
		t.Errorf("Create: %d: want 7", n)
	}
	for depth := range 7 {
		finds(t, r, "/"+strings.TrimPrefix(path[:2*depth], "/"), depth)
	}
	finds(t, r, path+"/f", 7)
	refusesFind(t, r, "/d/f", api.ErrMissing)
	refusesFind(t, r, "/f", api.ErrMissing)
}

// The same name in several directories leads to several nodes.
func TestNamesAreADirectorysOwn(t *testing.T) {
	r := tree.New()
	mkdir(t, r, "/a")
	mkdir(t, r, "/b")
	mkdir(t, r, "/a/a")
	want := map[string]int{"/a": 1, "/b": 2, "/a/a": 3}
	for i, path := range []string{"/x", "/a/x", "/b/x", "/a/a/x", "/b/a", "/a/b"} {
		want[path] = create(t, r, path)
		writes(t, r, want[path], 0, path)
		if want[path] != 4+i {
			t.Errorf("Create(%q): %d: want %d", path, want[path], 4+i)
		}
	}
	for path, n := range want {
		finds(t, r, path, n)
		if n > 3 {
			has(t, r, n, path)
		}
	}
	lists(t, r, "/", "a", "b", "x")
	lists(t, r, "/a", "a", "b", "x")
	lists(t, r, "/a/a", "x")
	lists(t, r, "/b", "a", "x")
}

func TestThroughAFileAndToOne(t *testing.T) {
	r := some(t)
	finds(t, r, "/f", 4) // only to it
	for _, path := range []string{"/f/x", "/f/f", "/f/x/y", "/d/f/x", "/d/f/x/y/z", "/g/x", "/d/g/x"} {
		refusesFind(t, r, path, api.ErrState)
		refusesList(t, r, path, api.ErrState)
		refusesBoth(t, r, path, api.ErrState)
		refusesUnlink(t, r, path, api.ErrState)
		refusesLink(t, r, path, "/new", api.ErrState)
		refusesLink(t, r, "/f", path, api.ErrState)
		refusesRename(t, r, path, "/new", api.ErrState)
		refusesRename(t, r, "/f", path, api.ErrState)
	}
}

// Where a file and a name that is not there stand in one path, the first one of them tells.
func TestWhatComesFirstOnTheWay(t *testing.T) {
	r := some(t)
	for path, want := range map[string]api.Errno{
		"/no/f": api.ErrMissing, "/no/f/x": api.ErrMissing, "/d/no/f/x": api.ErrMissing, "/d/e/f": api.ErrMissing, "/d/e/f/x": api.ErrMissing,
		"/f/no": api.ErrState, "/f/no/x": api.ErrState, "/d/f/no/x": api.ErrState, "/f/d/f": api.ErrState, "/f/d": api.ErrState,
		"/no": api.ErrMissing, "/d/no": api.ErrMissing, "/d/d": api.ErrMissing, "/d/d/f": api.ErrMissing, "/e": api.ErrMissing,
	} {
		refusesFind(t, r, path, want)
		refusesList(t, r, path, want)
		refusesUnlink(t, r, path, want)
		refusesLink(t, r, path, "/new", want)
		refusesRename(t, r, path, "/new", want)
	}
	for path, want := range map[string]api.Errno{
		"/no/f": api.ErrMissing, "/no/f/x": api.ErrMissing, "/d/no/f/x": api.ErrMissing, "/d/e/f/x": api.ErrMissing,
		"/f/no": api.ErrState, "/f/no/x": api.ErrState, "/d/f/no/x": api.ErrState, "/f/d/f": api.ErrState,
	} {
		refusesBoth(t, r, path, want)
		refusesLink(t, r, "/f", path, want)
		refusesRename(t, r, "/f", path, want)
	}
}

func TestTextsThatAreNoPaths(t *testing.T) {
	for _, path := range append(slices.Clone(noPaths), strings.Repeat("x", 1<<20), "/"+strings.Repeat("x", 1<<20), "/d/"+strings.Repeat("/", 1<<16), "/f"+strings.Repeat("/x", 1<<16)+"/") {
		r := some(t)
		refusesFind(t, r, path, api.ErrArg)
		refusesList(t, r, path, api.ErrArg)
		refusesBoth(t, r, path, api.ErrArg)
		refusesUnlink(t, r, path, api.ErrArg)
		refusesLink(t, r, path, "/new", api.ErrArg)
		refusesLink(t, r, "/f", path, api.ErrArg)
		refusesRename(t, r, path, "/new", api.ErrArg)
		refusesRename(t, r, "/f", path, api.ErrArg)
	}
}

var (
	areNames = regexp.MustCompile(`^(/[^/]+)+$`)
	areDots  = regexp.MustCompile(`/\.\.?(/|$)`)
)

// isPath says the document's words in another way.
func isPath(s string) bool {
	tooLong := func(name string) bool { return len(name) > 12 }
	return s == "/" || areNames.MatchString(s) && !areDots.MatchString(s) && !slices.ContainsFunc(strings.Split(s, "/"), tooLong)
}

// All short texts of slashes, dots and letters, in a tree in which they lead nowhere, and one in which all are through a file.
func TestAllShortTexts(t *testing.T) {
	none, file := tree.New(), tree.New()
	for _, name := range []string{"a", "a.", "aa", ".a", "...", "..a", ".a.", "a..", "a.a", "aa.", ".aa", "aaa", "..."} {
		_, _ = file.Create("/" + name)
	}
	var all func(s string, more int)
	all = func(s string, more int) {
		switch {
		case s == "/":
			finds(t, none, s, 0)
			finds(t, file, s, 0)
		case !isPath(s):
			findsNot(t, none, s, api.ErrArg)
			findsNot(t, file, s, api.ErrArg)
		default:
			findsNot(t, none, s, api.ErrMissing)
			first, _, through := strings.Cut(s[1:], "/")
			if through && len(first) <= 3 {
				findsNot(t, file, s, api.ErrState)
			}
		}
		if more > 0 {
			for _, c := range []string{"/", ".", "a"} {
				all(s+c, more-1)
			}
		}
	}
	all("", 8)
}

func TestNamesOfEachLength(t *testing.T) {
	r := tree.New()
	var names []string
	for n := 1; n <= api.MaxName; n++ {
		name := strings.Repeat("n", n)
		names = append(names, name)
		mkdir(t, r, "/"+name)
		create(t, r, "/"+name+"/"+name)
		finds(t, r, "/"+name, 2*n-1)
		finds(t, r, "/"+name+"/"+name, 2*n)
	}
	lists(t, r, "/", names...)
	for n := api.MaxName + 1; n < 600; n++ {
		refusesBoth(t, r, "/"+strings.Repeat("n", n), api.ErrArg)
		findsNot(t, r, "/n/"+strings.Repeat("n", n), api.ErrArg)
		findsNot(t, r, "/"+strings.Repeat("n", n)+"/n", api.ErrArg)
	}
}

// A name's length is that of its bytes, and it is looked for byte by byte.
func TestNamesAreBytes(t *testing.T) {
	names := []string{
		"\x00", "\x00\x00", " ", "\n", "\\", "*", "...", "....", ".a", "..a", "a.", "a..", ". ", " .", "..\x00", ".\xff",
		"é", "e\u0301", "日本語日", "😀😀😀", "\xff", "\xfe\xff", "\xc3", "\xed\xa0\x80", "\ufffd", "A", "a", "１", "1",
	}
	r := tree.New()
	for i, name := range names {
		if n := create(t, r, "/"+name); n != i+1 {
			t.Errorf("Create(%q): %d: want %d", name, n, i+1)
		}
	}
	for i, name := range names {
		finds(t, r, "/"+name, i+1)
	}
	slices.Sort(names)
	lists(t, r, "/", names...)
}

func TestNamesOfBytesOfEveryValue(t *testing.T) {
	for v := range 256 {
		name, long := string([]byte{byte(v)}), strings.Repeat(string([]byte{byte(v)}), api.MaxName)
		r := tree.New()
		switch v {
		case '/':
			refusesBoth(t, r, "/"+name, api.ErrArg)
			refusesBoth(t, r, "/"+long, api.ErrArg)
			continue
		case '.':
			refusesBoth(t, r, "/"+name, api.ErrArg)
			refusesBoth(t, r, "/"+name+name, api.ErrArg)
		default:
			mkdir(t, r, "/"+name)
			create(t, r, "/"+name+"/"+name)
			refusesBoth(t, r, "/"+name, api.ErrTwice)
			lists(t, r, "/", name)
			lists(t, r, "/"+name, name)
		}
		create(t, r, "/"+long)
		refusesBoth(t, r, "/"+long+name, api.ErrArg)
		unlinks(t, r, "/"+long)
	}
}

func TestNamesAreInOrderByteByByte(t *testing.T) {
	want := []string{"\x00", "\x00\x00", "\x01", " ", "-", "0", "10", "9", "A", "Z", "_", "a", "a\x00", "a-", "a.", "a0", "aA", "aa", "ab", "b", "z", "z\xff", "\x7f", "\x80", "é", "日", "\xff", "\xff\xff"}
	if !slices.IsSorted(want) {
		t.Fatal("the test's own list is not in order")
	}
	made := slices.Clone(want)
	for round := range 5 {
		r := tree.New()
		mkdir(t, r, "/-dir")
		for i := range made {
			name := made[(i*11+round*5)%len(made)] // 11 goes through all of them
			if i%2 == 0 {
				create(t, r, "/-dir/"+name)
			} else {
				mkdir(t, r, "/-dir/"+name)
			}
		}
		lists(t, r, "/-dir", want...)
		lists(t, r, "/", "-dir")
	}
}

func TestDirectoriesAsDeepAsCanBe(t *testing.T) {
	r := tree.New()
	path := ""
	for n := 1; n < api.MaxNodes; n++ {
		path += fmt.Sprintf("/deep%08d", n)
		mkdir(t, r, path)
		finds(t, r, path, n)
	}
	refusesBoth(t, r, path+"/x", api.ErrFull)
	refusesFind(t, r, path+"/x", api.ErrMissing)
	refusesRename(t, r, "/deep00000001", path+"/x", api.ErrState)
	for n := api.MaxNodes - 1; n > 0; n-- {
		if n > 1 {
			refusesUnlink(t, r, "/deep00000001", api.ErrState)
		}
		unlinks(t, r, path)
		path = path[:strings.LastIndex(path, "/")]
		nodes(t, "one less", r, n)
	}
	lists(t, r, "/")
}

// Paths with many names, of which few can be there.
func TestLongPaths(t *testing.T) {
	for _, many := range []int{api.MaxNodes, api.MaxNodes + 1, 1 << 16} {
		names := strings.Repeat("/d", many)
		r := tree.New()
		refusesFind(t, r, names, api.ErrMissing)
		refusesBoth(t, r, names, api.ErrMissing)
		mkdir(t, r, "/d")
		refusesFind(t, r, names, api.ErrMissing)
		refusesUnlink(t, r, names, api.ErrMissing)
		create(t, r, "/d/d")
		refusesFind(t, r, names, api.ErrState)
		refusesRename(t, r, "/d", names, api.ErrState)
		refusesLink(t, r, "/d/d", names, api.ErrState)
		refusesLink(t, r, names, "/x", api.ErrState)
	}
}

// The memory of a path may be used for another text behind the call.
func TestNothingOfAPathIsKept(t *testing.T) {
	r := tree.New()
	with := func(text string, call func(path string)) {
		b := []byte(text)
		call(unsafe.String(&b[0], len(b)))
		for i := range b {
			b[i] = '#'
		}
	}
	with("/dir", func(path string) { mkdir(t, r, path) })
	with("/dir/file", func(path string) { create(t, r, path) })
	with("/dir/other", func(path string) { links(t, r, "/dir/file", path) })
	with("/moved", func(path string) { renames(t, r, "/dir/file", path) })
	with("bytes", func(s string) { writes(t, r, 2, 0, s) })
	lists(t, r, "/", "dir", "moved")
	lists(t, r, "/dir", "other")
	finds(t, r, "/dir", 1)
	finds(t, r, "/moved", 2)
	finds(t, r, "/dir/other", 2)
	has(t, r, 2, "bytes")
}

func TestAnAnswerIsTheCallers(t *testing.T) {
	r := some(t)
	l, err := r.List("/d")
	done(t, "List", err)
	for i := range l {
		l[i] = "spoilt"
	}
	_ = append(l, "more")
	lists(t, r, "/d", "e", "f", "g")
	mkdir(t, r, "/d/h")
	lists(t, r, "/d", "e", "f", "g", "h")
	s, err := r.Read(4, 0, whole)
	done(t, "Read", err)
	writes(t, r, 4, 0, "4444")
	if s != "four" {
		t.Errorf("what was read became %q", s)
	}
}

func TestTreesShareNothing(t *testing.T) {
	a, b := some(t), some(t)
	unlinks(t, a, "/d/f")
	writes(t, a, 4, 0, "five")
	done(t, "Hold", a.Hold(4))
	renames(t, a, "/d/e", "/e")
	lists(t, b, "/d", "e", "f", "g")
	lists(t, b, "/", "d", "f", "g")
	has(t, b, 4, "four")
	heldJust(t, b, 4, 0)
	heldJust(t, a, 4, 1)
	if c := tree.New(); c == a || c == b || c.Nodes() != 1 {
		t.Errorf("New is not a tree of its own")
	}
}

// P1 leaves open what these are; nothing panics.
func TestWhatNewDidNotMakeHasNoNodes(t *testing.T) {
	var none *tree.Tree
	for _, r := range []*tree.Tree{none, {}} {
		nodes(t, "none", r, 0)
		for _, path := range []string{"/", "/a", "/a/b"} {
			refusesFind(t, r, path, api.ErrMissing)
			refusesList(t, r, path, api.ErrMissing)
		}
		refusesBoth(t, r, "/a", api.ErrMissing)
		refusesBoth(t, r, "/", api.ErrArg)
		refusesUnlink(t, r, "/a", api.ErrMissing)
		refusesLink(t, r, "/a", "/b", api.ErrMissing)
		refusesRename(t, r, "/a", "/b", api.ErrMissing)
		refusesFind(t, r, "a", api.ErrArg)
		for n := range 3 {
			gone(t, r, n)
		}
	}
}
