package tree_test

import (
	"fmt"
	"slices"
	"testing"

	"almshouse/api"
	"almshouse/tree"
)

func TestTheDirectoryOfAllInEachPlace(t *testing.T) {
	for _, r := range []*tree.Tree{tree.New(), some(t)} {
		finds(t, r, "/", 0)
		refusesBoth(t, r, "/", api.ErrArg)
		refusesUnlink(t, r, "/", api.ErrArg)
		refusesRename(t, r, "/", "/x", api.ErrArg)
		refusesRename(t, r, "/", "/", api.ErrArg)
		refusesLink(t, r, "/", "/x", api.ErrState)
		refusesLink(t, r, "/", "/", api.ErrState)
		refusesAll(t, r, 0, api.ErrState)
	}
	r := some(t)
	refusesLink(t, r, "/f", "/", api.ErrArg)
	refusesRename(t, r, "/f", "/", api.ErrArg)
	refusesRename(t, r, "/d", "/", api.ErrArg)
	lists(t, r, "/", "d", "f", "g")
}

func TestWhatIsThereAlready(t *testing.T) {
	r := some(t)
	for _, path := range []string{"/d", "/d/f", "/d/e", "/f", "/g", "/d/g"} {
		refusesBoth(t, r, path, api.ErrTwice)
		for _, old := range []string{"/f", "/d/f", "/g", "/d/g"} {
			refusesLink(t, r, old, path, api.ErrTwice)
		}
		for _, old := range []string{"/f", "/d/f", "/g", "/d/g", "/d", "/d/e"} {
			refusesRename(t, r, old, path, api.ErrTwice)
		}
	}
}

// A new node's number is the least that no node has, whatever its kind is.
func TestNumbersAreGivenAgain(t *testing.T) {
	r := tree.New()
	paths := []string{"/1", "/2", "/3", "/4", "/5", "/6"}
	for i, path := range paths {
		makes := []func(*testing.T, *tree.Tree, string) int{mkdir, create}[i%2]
		if n := makes(t, r, path); n != i+1 {
			t.Errorf("%q has number %d: want %d", path, n, i+1)
		}
	}
	for _, path := range []string{"/5", "/2", "/4"} {
		unlinks(t, r, path)
	}
	nodes(t, "three are gone", r, 4)
	for i, want := range []int{2, 4, 5, 7} {
		path := fmt.Sprintf("/1/new%d", i)
		makes := []func(*testing.T, *tree.Tree, string) int{mkdir, create}[i%2]
		if n := makes(t, r, path); n != want {
			t.Errorf("%q has number %d: want %d", path, n, want)
		}
	}
	lists(t, r, "/", "1", "3", "6")
	lists(t, r, "/1", "new0", "new1", "new2", "new3")
	finds(t, r, "/6", 6)
}

// What has the number of one that went has nothing of it.
func TestANumberThatIsGivenAgainIsNew(t *testing.T) {
	r := tree.New()
	n := create(t, r, "/a")
	writes(t, r, n, 0, "bytes")
	done(t, "Hold", r.Hold(n))
	done(t, "Drop", r.Drop(n))
	unlinks(t, r, "/a")
	gone(t, r, n)
	if again := create(t, r, "/b"); again != n {
		t.Fatalf("number %d: want %d", again, n)
	}
	has(t, r, n, "")
	heldJust(t, r, n, 0)
	writes(t, r, n, 3, "x")
	has(t, r, n, "\x00\x00\x00x")
	unlinks(t, r, "/b")
	if again := mkdir(t, r, "/c"); again != n {
		t.Fatalf("number %d: want %d", again, n)
	}
	refusesAll(t, r, n, api.ErrState)
	lists(t, r, "/", "c")
	lists(t, r, "/c")
}

// full is a tree of MaxNodes: /d (1), and files and directories in turn.
func full(t *testing.T) *tree.Tree {
	t.Helper()
	r := tree.New()
	mkdir(t, r, "/d")
	for n := 2; n < api.MaxNodes; n++ {
		path := fmt.Sprintf("/%d", n)
		if n%3 == 0 {
			path = "/d" + path
		}
		if n%2 == 0 {
			create(t, r, path)
		} else {
			mkdir(t, r, path)
		}
		finds(t, r, path, n)
	}
	nodes(t, "full", r, api.MaxNodes)
	return r
}

func TestAsManyNodesAsThereMayBe(t *testing.T) {
	r := full(t)
	for _, path := range []string{"/x", "/d/x", "/5/x", "/d/9/x"} {
		refusesBoth(t, r, path, api.ErrFull)
	}
	refusesBoth(t, r, "/2", api.ErrTwice) // told ahead of it
	refusesBoth(t, r, "/d/3", api.ErrTwice)
	refusesBoth(t, r, "/2/x", api.ErrState)
	refusesBoth(t, r, "/no/x", api.ErrMissing)
	refusesBoth(t, r, "/x/", api.ErrArg)
	refusesBoth(t, r, "/", api.ErrArg)
	links(t, r, "/2", "/x") // no node more
	renames(t, r, "/4", "/y")
	nodes(t, "still full", r, api.MaxNodes)
	unlinks(t, r, "/2")
	refusesBoth(t, r, "/z", api.ErrFull) // /x is it
	unlinks(t, r, "/x")
	nodes(t, "one less", r, api.MaxNodes-1)
	if n := create(t, r, "/z"); n != 2 {
		t.Errorf("Create: %d: want 2", n)
	}
	refusesBoth(t, r, "/zz", api.ErrFull)
}

// A file that is held counts as well, with or without a name.
func TestWhatIsHeldTakesRoom(t *testing.T) {
	r := full(t)
	done(t, "Hold", r.Hold(8))
	unlinks(t, r, "/8")
	refusesBoth(t, r, "/8", api.ErrFull)
	done(t, "Drop", r.Drop(8))
	nodes(t, "one less", r, api.MaxNodes-1)
	if n := mkdir(t, r, "/8"); n != 8 {
		t.Errorf("Mkdir: %d: want 8", n)
	}
	refusesBoth(t, r, "/x", api.ErrFull)
}

func TestTheFullTreeIsEmptiedAndFilledAgain(t *testing.T) {
	r := full(t)
	for n := api.MaxNodes - 1; n > 1; n-- {
		path := fmt.Sprintf("/%d", n)
		if n%3 == 0 {
			path = "/d" + path
		}
		unlinks(t, r, path)
	}
	unlinks(t, r, "/d")
	nodes(t, "emptied", r, 1)
	for n := 1; n < api.MaxNodes; n++ {
		if got := create(t, r, fmt.Sprintf("/%d", n)); got != n {
			t.Errorf("Create: %d: want %d", got, n)
		}
	}
	refusesBoth(t, r, "/x", api.ErrFull)
}

func TestAFileWithSeveralNamesIsOne(t *testing.T) {
	r := some(t)
	paths := []string{"/f"}
	for i, path := range []string{"/f2", "/d/f2", "/d/e/f", "/a", "/d/zzz"} {
		links(t, r, paths[i*3%len(paths)], path)
		paths = append(paths, path)
		nodes(t, "linked", r, 6)
	}
	for i, path := range paths {
		finds(t, r, path, 4)
		n, _ := r.Find(path)
		writes(t, r, n, i, "+")
	}
	has(t, r, 4, "++++++")
	lists(t, r, "/", "a", "d", "f", "f2", "g")
	lists(t, r, "/d", "e", "f", "f2", "g", "zzz")
	lists(t, r, "/d/e", "f")
	for i, path := range paths {
		finds(t, r, path, 4)
		has(t, r, 4, "++++++")
		unlinks(t, r, path) // also the first one it had: none is more than another
		for _, other := range paths[i+1:] {
			finds(t, r, other, 4)
		}
	}
	gone(t, r, 4)
	nodes(t, "without names", r, 5)
	finds(t, r, "/d/g", 5)
}

func TestLinkAndUnlinkManyTimes(t *testing.T) {
	const many = 70_000 // more names than 16 bits count, one behind the other
	r := some(t)
	for i := range many {
		path := []string{"/x", "/d/x"}[i%2]
		done(t, "Link", r.Link("/f", path))
		done(t, "Unlink", r.Unlink(path))
	}
	has(t, r, 4, "four")
	for i := range 1000 {
		done(t, "Link", r.Link("/f", fmt.Sprintf("/d/e/%d", i)))
	}
	unlinks(t, r, "/f")
	for i := range 1000 {
		has(t, r, 4, "four")
		done(t, "Unlink", r.Unlink(fmt.Sprintf("/d/e/%d", i)))
	}
	gone(t, r, 4)
}

func TestADirectoryIsNotLinked(t *testing.T) {
	r := some(t)
	for _, old := range []string{"/", "/d", "/d/e"} {
		for _, path := range []string{"/new", "/d/new", "/d/e/new"} {
			refusesLink(t, r, old, path, api.ErrState)
		}
	}
}

func TestUnlink(t *testing.T) {
	r := some(t)
	unlinks(t, r, "/f")
	gone(t, r, 4)
	nodes(t, "without /f", r, 5)
	lists(t, r, "/", "d", "g")
	finds(t, r, "/d/f", 2) // another one
	refusesUnlink(t, r, "/f", api.ErrMissing)
	unlinks(t, r, "/d/e")
	refusesAll(t, r, 3, api.ErrMissing)
	lists(t, r, "/d", "f", "g")
	nodes(t, "without /d/e", r, 4)
	refusesUnlink(t, r, "/d/e", api.ErrMissing)
	refusesUnlink(t, r, "/d/e/x", api.ErrMissing)
	refusesUnlink(t, r, "/d/f/x", api.ErrState)
}

func TestADirectoryGoesWhenItIsEmptyAgain(t *testing.T) {
	r := some(t)
	refusesUnlink(t, r, "/d", api.ErrState)
	unlinks(t, r, "/d/f")
	refusesUnlink(t, r, "/d", api.ErrState)
	unlinks(t, r, "/d/g")
	refusesUnlink(t, r, "/d", api.ErrState) // an empty directory is a name, too
	renames(t, r, "/d/e", "/e")
	lists(t, r, "/d")
	unlinks(t, r, "/d")
	nodes(t, "without /d", r, 4)
	gone(t, r, 1)
	finds(t, r, "/g", 5)
	finds(t, r, "/e", 3)
	mkdir(t, r, "/e/x")
	refusesUnlink(t, r, "/e", api.ErrState)
	unlinks(t, r, "/e/x")
	unlinks(t, r, "/e")
	lists(t, r, "/", "f", "g")
	if n := create(t, r, "/d"); n != 1 {
		t.Errorf("Create: %d: want 1", n)
	}
}

func TestRenameAFile(t *testing.T) {
	r := some(t)
	at := "/f"
	for _, path := range []string{"/ff", "/d/ff", "/d/e/f", "/d/e/g", "/x", "/f"} {
		renames(t, r, at, path)
		finds(t, r, path, 4)
		has(t, r, 4, "four")
		nodes(t, "named otherwise", r, 6)
		at = path
	}
	if seen(r) != seen(some(t)) {
		t.Errorf("it was named back, and is not as it was:\n%s", seen(r))
	}
	unlinks(t, r, "/f")
	gone(t, r, 4)
}

// The other names of a file stay when one is another one.
func TestRenameOneNameOfSeveral(t *testing.T) {
	r := some(t)
	renames(t, r, "/d/g", "/d/e/h")
	finds(t, r, "/g", 5)
	finds(t, r, "/d/e/h", 5)
	refusesRename(t, r, "/g", "/d/e/h", api.ErrTwice) // also if it is itself
	unlinks(t, r, "/g")
	has(t, r, 5, "")
	unlinks(t, r, "/d/e/h")
	gone(t, r, 5)
}

func TestRenameADirectoryWithAllThatIsInIt(t *testing.T) {
	r := some(t)
	mkdir(t, r, "/x")
	links(t, r, "/f", "/d/e/four")
	before := seen(r)
	for _, path := range []string{"/dd", "/x/d", "/x/y", "/d2"} {
		renames(t, r, "/d", path)
		finds(t, r, path, 1)
		finds(t, r, path+"/f", 2)
		finds(t, r, path+"/e", 3)
		finds(t, r, path+"/g", 5)
		finds(t, r, path+"/e/four", 4)
		lists(t, r, path, "e", "f", "g")
		lists(t, r, path+"/e", "four")
		refusesFind(t, r, "/d/f", api.ErrMissing)
		nodes(t, "named otherwise", r, 7)
		renames(t, r, path, "/d")
		if seen(r) != before {
			t.Errorf("%q was named back, and is not as it was:\n%s", path, seen(r))
		}
	}
}

// What was above may come to stand below.
func TestDirectoriesTurnRound(t *testing.T) {
	r := tree.New()
	mkdir(t, r, "/a")
	mkdir(t, r, "/a/b")
	mkdir(t, r, "/a/b/c")
	renames(t, r, "/a/b", "/b")
	renames(t, r, "/a", "/b/c/a")
	lists(t, r, "/", "b")
	finds(t, r, "/b", 2)
	finds(t, r, "/b/c", 3)
	finds(t, r, "/b/c/a", 1)
	lists(t, r, "/b/c/a")
	refusesRename(t, r, "/b", "/b/c/a/b", api.ErrState)
	refusesUnlink(t, r, "/b/c", api.ErrState)
	for _, path := range []string{"/b/c/a", "/b/c", "/b"} {
		unlinks(t, r, path)
	}
	nodes(t, "emptied", r, 1)
}

func TestADirectoryIsNotMovedIntoItself(t *testing.T) {
	r := some(t)
	mkdir(t, r, "/d/e/x")
	for _, path := range []string{"/d/new", "/d/e/new", "/d/e/x/new", "/d/d", "/d/e/d"} {
		refusesRename(t, r, "/d", path, api.ErrState)
	}
	refusesRename(t, r, "/d/e", "/d/e/new", api.ErrState)
	refusesRename(t, r, "/d/e", "/d/e/x/e", api.ErrState)
	refusesRename(t, r, "/d", "/d", api.ErrTwice) // told ahead of it
	refusesRename(t, r, "/d", "/d/e", api.ErrTwice)
	refusesRename(t, r, "/d", "/d/no/new", api.ErrMissing)
	refusesRename(t, r, "/d", "/d/f/new", api.ErrState)
	refusesRename(t, r, "/d", "/d/new/", api.ErrArg)
	refusesRename(t, r, "/d", "/d/", api.ErrArg)
	refusesRename(t, r, "/f", "/f/new", api.ErrState)
	renames(t, r, "/d/e", "/d/new") // its own directory is not itself
	renames(t, r, "/d/new/x", "/d/x")
	renames(t, r, "/d/new", "/d/x/new")
	finds(t, r, "/d/x/new", 3)
}

// A path may begin with another one's bytes, but not with its names.
func TestPathsThatBeginAlike(t *testing.T) {
	r := tree.New()
	mkdir(t, r, "/a")
	mkdir(t, r, "/ab")
	mkdir(t, r, "/a.")
	create(t, r, "/a/f")
	renames(t, r, "/a", "/ab/a")
	renames(t, r, "/ab/a", "/abc")
	renames(t, r, "/abc", "/a./x")
	renames(t, r, "/a./x", "/a")
	renames(t, r, "/a", "/aa")
	renames(t, r, "/aa", "/a")
	renames(t, r, "/ab", "/a/b")
	renames(t, r, "/a/b", "/a/bb")
	renames(t, r, "/a/bb", "/ab")
	finds(t, r, "/a/f", 4)
	finds(t, r, "/ab", 2)
	lists(t, r, "/", "a", "a.", "ab")
	refusesFind(t, r, "/ab/f", api.ErrMissing)
	refusesFind(t, r, "/a./f", api.ErrMissing)
	mkdir(t, r, "/ab/a")
	renames(t, r, "/a", "/ab/a/a") // its names stand in there, but not ahead
	finds(t, r, "/ab/a/a/f", 4)
}

func TestList(t *testing.T) {
	r := some(t)
	lists(t, r, "/", "d", "f", "g")
	lists(t, r, "/d", "e", "f", "g")
	lists(t, r, "/d/e")
	for _, path := range []string{"/f", "/g", "/d/f", "/d/g"} {
		refusesList(t, r, path, api.ErrState)
	}
	refusesList(t, r, "/no", api.ErrMissing)
	refusesList(t, r, "/d/no", api.ErrMissing)
}

// Of what is refused by one path, and by another one, the first one tells: wholly ahead of the second.
func TestWhichPathComesFirst(t *testing.T) {
	r := some(t)
	type pair struct {
		path string
		want api.Errno
	}
	olds := []pair{{"", api.ErrArg}, {"/x/", api.ErrArg}, {"/f/..", api.ErrArg}, {"/no", api.ErrMissing}, {"/no/x", api.ErrMissing}, {"/d/no", api.ErrMissing}, {"/f/x", api.ErrState}, {"/d/f/x/y", api.ErrState}}
	news := []pair{{"", api.ErrArg}, {"/", api.ErrArg}, {"/x/", api.ErrArg}, {"/f/..", api.ErrArg}, {"/no/x", api.ErrMissing}, {"/d/no/f/x", api.ErrMissing}, {"/f/x", api.ErrState}, {"/d/f/x/y", api.ErrState}, {"/d", api.ErrTwice}, {"/f", api.ErrTwice}, {"/d/f", api.ErrTwice}}
	for _, old := range olds {
		for _, path := range append(slices.Clone(news), pair{path: "/new"}, pair{path: old.path}) {
			refusesLink(t, r, old.path, path.path, old.want)
			refusesRename(t, r, old.path, path.path, old.want)
		}
	}
	for _, path := range news {
		refusesLink(t, r, "/d", path.path, api.ErrState) // it is a directory
		refusesLink(t, r, "/", path.path, api.ErrState)
		refusesRename(t, r, "/", path.path, api.ErrArg)
		refusesLink(t, r, "/f", path.path, path.want)
		refusesLink(t, r, "/d/g", path.path, path.want)
		refusesRename(t, r, "/f", path.path, path.want)
		refusesRename(t, r, "/d/e", path.path, path.want)
	}
}
