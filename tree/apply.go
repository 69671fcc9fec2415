package tree

import (
	"slices"
	"strings"

	"selvedge/api"
)

// apply is a right tree, which stays as it is, behind a right operation.
func apply(t []api.Node, o api.Op) ([]api.Node, api.Errno) {
	switch o.Kind {
	case api.Create, api.Mkdir:
		return more(t, api.Node{Path: o.Path, Dir: o.Kind == api.Mkdir, First: o.Path})
	case api.Rmdir:
		return noDir(t, o.Path)
	}
	n, e := file(t, o.Path)
	if e != api.OK {
		return nil, e
	}
	switch o.Kind {
	case api.Link:
		n.Path = o.Other
		return more(t, n)
	case api.Rename:
		return moved(t, n, o.Other)
	case api.Write:
		return written(t, n, o.Off, o.Data)
	case api.Truncate:
		return filled(t, n.First, ""), api.OK
	}
	return regrouped(without(t, n.Path, pathOf), n.First), api.OK
}

// find has the errors of finding a path. The first thing ahead of its last name that is no directory decides: below it there is nothing.
func find(t []api.Node, path string) api.Errno {
	names, _ := cut(path)
	gone := ""
	for _, name := range names[:len(names)-1] {
		gone += "/" + name
		n, ok := at(t, gone)
		switch {
		case !ok:
			return api.ErrNoent
		case !n.Dir:
			return api.ErrNotdir
		}
	}
	return api.OK
}

// there is what stands at a path.
func there(t []api.Node, path string) (api.Node, api.Errno) {
	if e := find(t, path); e != api.OK {
		return api.Node{}, e
	}
	n, ok := at(t, path)
	if !ok {
		return api.Node{}, api.ErrNoent
	}
	return n, api.OK
}

// file is the file that stands at a path.
func file(t []api.Node, path string) (api.Node, api.Errno) {
	n, e := there(t, path)
	if e == api.OK && n.Dir {
		return api.Node{}, api.ErrIsdir
	}
	return n, e
}

// vacant has the errors of finding a path at which nothing may stand.
func vacant(t []api.Node, path string) api.Errno {
	if e := find(t, path); e != api.OK {
		return e
	}
	if _, ok := at(t, path); ok {
		return api.ErrExist
	}
	return api.OK
}

// more is a tree with one more: a directory, a file, one more name of a file.
func more(t []api.Node, n api.Node) ([]api.Node, api.Errno) {
	if e := vacant(t, n.Path); e != api.OK {
		return nil, e
	}
	if len(t) == mostNodes {
		return nil, api.ErrFull
	}
	return regrouped(with(t, n, pathOf), n.First), api.OK
}

// moved is a tree in which a file stands at another path.
func moved(t []api.Node, n api.Node, path string) ([]api.Node, api.Errno) {
	if e := vacant(t, path); e != api.OK {
		return nil, e
	}
	left := without(t, n.Path, pathOf)
	n.Path = path
	return regrouped(with(left, n, pathOf), n.First), api.OK
}

// noDir is a tree without a directory.
func noDir(t []api.Node, path string) ([]api.Node, api.Errno) {
	n, e := there(t, path)
	if e != api.OK {
		return nil, e
	}
	if !n.Dir {
		return nil, api.ErrNotdir
	}
	for _, other := range t {
		if strings.HasPrefix(other.Path, path+"/") {
			return nil, api.ErrNotempty
		}
	}
	return without(t, path, pathOf), api.OK
}

// written is a tree with data in a file, from a byte on.
func written(t []api.Node, n api.Node, off int, data string) ([]api.Node, api.Errno) {
	end := off + len(data)
	if off > len(n.Data) || end > api.MaxSize {
		return nil, api.ErrRange
	}
	return filled(t, n.First, n.Data[:off]+data+n.Data[min(end, len(n.Data)):]), api.OK
}

// filled is a tree of its own in which all of a file have the same data.
func filled(t []api.Node, first, data string) []api.Node {
	other := slices.Clone(t)
	for i := range other {
		if other[i].First == first {
			other[i].Data = data
		}
	}
	return other
}

// regrouped gives all of a file the least of their paths for their First, where that may be another one now: it changes t, and answers it.
func regrouped(t []api.Node, first string) []api.Node {
	least := ""
	for i := range t {
		if t[i].First != first {
			continue
		}
		if least == "" {
			least = t[i].Path
		}
		t[i].First = least
	}
	return t
}
