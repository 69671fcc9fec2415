package delta

import (
	"slices"

	"selvedge/api"
	"selvedge/tree"
)

// side is a tree that is right: its nodes, rising and by their paths, and the paths of each file, rising, by its First.
type side struct {
	nodes []api.Node
	at    map[string]api.Node
	links map[string][]string
}

func sideOf(t []api.Node) side {
	s := side{t, byPath(t), map[string][]string{}}
	for _, n := range t {
		if !n.Dir {
			s.links[n.First] = append(s.links[n.First], n.Path)
		}
	}
	return s
}

// byPath are nodes by their paths.
func byPath(t []api.Node) map[string]api.Node {
	at := map[string]api.Node{}
	for _, n := range t {
		at[n.Path] = n
	}
	return at
}

// pair is two trees, of which the one is to be the other.
type pair struct {
	a, b side
}

func pairOf(a, b []api.Node) (pair, api.Errno) {
	if !tree.Right(a) || !tree.Right(b) {
		return pair{}, api.ErrForm
	}
	return pair{sideOf(a), sideOf(b)}, api.OK
}

// kept: is a path, that one of them has, kept?
func (p pair) kept(path string) bool {
	was, is := p.a.at[path], p.b.at[path]
	if was.Dir || is.Dir {
		return was.Dir && is.Dir
	}
	// What is not there has no First, and so no paths.
	return slices.Equal(p.a.links[was.First], p.b.links[is.First])
}

// unlinks take the files away that are not kept.
func (p pair) unlinks() []api.Op {
	var l []api.Op
	for _, n := range p.a.nodes {
		if !n.Dir && !p.kept(n.Path) {
			l = append(l, api.Op{Kind: api.Unlink, Path: n.Path})
		}
	}
	return l
}

// rmdirs take the directories away that are none in b, from the greatest path on: what is below another one goes first.
func (p pair) rmdirs() []api.Op {
	var l []api.Op
	for _, n := range slices.Backward(p.a.nodes) {
		if n.Dir && !p.kept(n.Path) {
			l = append(l, api.Op{Kind: api.Rmdir, Path: n.Path})
		}
	}
	return l
}

// mkdirs make the directories that are none in a.
func (p pair) mkdirs() []api.Op {
	var l []api.Op
	for _, n := range p.b.nodes {
		if n.Dir && !p.kept(n.Path) {
			l = append(l, api.Op{Kind: api.Mkdir, Path: n.Path})
		}
	}
	return l
}

// creates make the files that are not kept, with all their paths. A file's paths are kept all or none.
func (p pair) creates() []api.Op {
	var l []api.Op
	for _, n := range p.b.files() {
		if p.kept(n.Path) {
			continue
		}
		l = append(l, api.Op{Kind: api.Create, Path: n.Path})
		for _, other := range p.b.links[n.Path][1:] {
			l = append(l, api.Op{Kind: api.Link, Path: n.Path, Other: other})
		}
	}
	return l
}

// writes let the files have their data.
func (p pair) writes() []api.Op {
	var l []api.Op
	for _, n := range p.b.files() {
		had := ""
		if p.kept(n.Path) {
			had = p.a.at[n.Path].Data
		}
		if n.Data == had {
			continue
		}
		if had != "" {
			l = append(l, api.Op{Kind: api.Truncate, Path: n.Path})
		}
		for off := 0; off < len(n.Data); off += api.MaxWrite {
			end := min(off+api.MaxWrite, len(n.Data))
			l = append(l, api.Op{Kind: api.Write, Path: n.Path, Off: off, Data: n.Data[off:end]})
		}
	}
	return l
}

// files are the nodes of a tree's files, each by its First alone.
func (s side) files() []api.Node {
	var l []api.Node
	for _, n := range s.nodes {
		if !n.Dir && n.First == n.Path {
			l = append(l, n)
		}
	}
	return l
}
