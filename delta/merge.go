package delta

import (
	"slices"
	"strings"

	"selvedge/api"
)

// hasMorePaths: is it a name, but the least, of a file with more of them?
func hasMorePaths(n api.Node) bool {
	return n.First != n.Path
}

// merged is what stands at all paths of three trees, none of whose files has more than one path; and the conflicts.
func merged(base, mine, theirs []api.Node) (t []api.Node, conflicts []string) {
	was, own, other := byPath(base), byPath(mine), byPath(theirs)
	stands := map[string]api.Node{}
	for _, path := range pathsOf(base, mine, theirs) {
		n, conflict := chosen(was[path], own[path], other[path])
		if n != (api.Node{}) && !hasPlace(stands, path) {
			n, conflict = api.Node{}, true
		}
		if n != (api.Node{}) {
			stands[path] = n
			t = append(t, n)
		}
		if conflict {
			conflicts = append(conflicts, path)
		}
	}
	return t, conflicts
}

// pathsOf are all paths of some trees, rising, each once: what stands ahead of another one comes first.
func pathsOf(trees ...[]api.Node) []string {
	var paths []string
	for _, t := range trees {
		for _, n := range t {
			paths = append(paths, n.Path)
		}
	}
	slices.Sort(paths)
	return slices.Compact(paths)
}

// chosen is what is to stand at a path, and whether that is a conflict. Nodes of one path, which is their First, differ by what they are and by their data alone; the zero Node is nothing.
func chosen(base, mine, theirs api.Node) (api.Node, bool) {
	switch {
	case mine == theirs, theirs == base:
		return mine, false
	case mine == base:
		return theirs, false
	}
	return mine, true
}

// hasPlace: is it the root, or is there a directory in which something can stand at a path?
func hasPlace(stands map[string]api.Node, path string) bool {
	at := strings.LastIndexByte(path, '/')
	return path == "/" || stands[path[:max(at, 1)]].Dir
}
