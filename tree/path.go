package tree

import (
	"strings"

	"almshouse/api"
)

// place is where a path's last name stands, or may stand: a directory's names, and the name.
type place struct {
	names map[string]int
	name  string
}

func (p place) set(n int) {
	p.names[strings.Clone(p.name)] = n // the name alone is kept, not the path of which it is a piece
}

func (p place) unset() { delete(p.names, p.name) }

// isPath tells whether a text is a path. All of it is looked at, ahead of where it leads.
func isPath(path string) bool {
	if path == "/" {
		return true
	}
	names, ok := strings.CutPrefix(path, "/")
	if !ok {
		return false
	}
	for name := range strings.SplitSeq(names, "/") {
		if !isName(name) {
			return false
		}
	}
	return true
}

// isName tells whether what has no / is a name.
func isName(s string) bool {
	return len(s) >= 1 && len(s) <= api.MaxName && s != "." && s != ".."
}

// lead goes from the directory of all from name to name, which have / between: to which node. (No names lead to that directory.) ErrState: through a file; ErrMissing: there is no such name.
func (t *Tree) lead(names string) (int, error) {
	if t.Nodes() == 0 { // what New did not make has no directory either
		return 0, api.ErrMissing
	}
	n := root
	for names != "" {
		x := t.nodes[n]
		if !x.isDir() {
			return 0, api.ErrState
		}
		name, rest, _ := strings.Cut(names, "/")
		next, ok := x.names[name]
		if !ok {
			return 0, api.ErrMissing
		}
		n, names = next, rest
	}
	return n, nil
}

// placeOf is a path's place. ErrArg: it is none, or has no name; ErrState, ErrMissing: of all but its last name; ErrState: these lead to a file.
func (t *Tree) placeOf(path string) (place, error) {
	if !isPath(path) || path == "/" {
		return place{}, api.ErrArg
	}
	cut := strings.LastIndexByte(path, '/')
	n, err := t.lead(strings.TrimPrefix(path[:cut], "/"))
	if err != nil {
		return place{}, err
	}
	x := t.nodes[n]
	if !x.isDir() {
		return place{}, api.ErrState
	}
	return place{names: x.names, name: path[cut+1:]}, nil
}

// taken is a path's place, and the node that is there. The place's errors; ErrMissing.
func (t *Tree) taken(path string) (place, int, error) {
	p, err := t.placeOf(path)
	if err != nil {
		return place{}, 0, err
	}
	n, ok := p.names[p.name]
	if !ok {
		return place{}, 0, api.ErrMissing
	}
	return p, n, nil
}

// free is a path's place, where nothing is. The place's errors; ErrTwice.
func (t *Tree) free(path string) (place, error) {
	p, err := t.placeOf(path)
	if err != nil {
		return place{}, err
	}
	if _, ok := p.names[p.name]; ok {
		return place{}, api.ErrTwice
	}
	return p, nil
}
