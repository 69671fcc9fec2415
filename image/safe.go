package image

import (
	"iter"
	"maps"
	"slices"
	"strings"

	"selvedge/api"
	"selvedge/bitset"
	"selvedge/layout"
)

// safe is an image that is safe.
type safe struct {
	*formed
	paths map[string]int // the inode that each path leads to
	led   map[int]int    // how many entries lead to each inode that is reached; to the root one, which is none
}

// place is a directory with the path that leads to it; the root's is empty.
type place struct {
	path string
	ino  int
}

// readSafe reads a safe image; any other one it gives up.
func readSafe(img [][]byte) *safe {
	s := &safe{read(img), map[string]int{"/": api.Root}, map[int]int{api.Root: 1}}
	s.needOwners()
	for path, ino := range s.walk() {
		// No two directories have the same path: if two paths are alike, the names are.
		_, again := s.paths[path]
		need(!again && strings.Count(path, "/") <= api.MaxDepth, api.ErrForm)
		s.paths[path] = ino
		s.led[ino]++
		// A directory has one link, a free inode none.
		need(s.led[ino] <= s.inodes[ino].Links, api.ErrForm)
	}
	return s
}

// needOwners gives up, unless the bits of all inodes that are not free are set, and those of their blocks, of which none has two owners.
func (f *formed) needOwners() {
	var owned [api.MaxBlocks]bool
	for ino, n := range f.inodes {
		need(n.Kind == api.Free || bitset.Get(f.img[inodeBits], ino), api.ErrForm)
		for _, block := range n.Blocks {
			need(!owned[block] && bitset.Get(f.img[blockBits], block), api.ErrForm)
			owned[block] = true
		}
	}
}

// walk goes through the entries that are reached: the path of each, and its inode. It goes into no directory twice, so it ends in any image.
func (f *formed) walk() iter.Seq2[string, int] {
	return func(yield func(string, int) bool) {
		dirs := []place{{"", api.Root}}
		seen := map[int]int{api.Root: 1}
		for len(dirs) > 0 {
			dir := dirs[0]
			dirs = dirs[1:]
			for _, entry := range f.entries(dir.ino) {
				path := dir.path + "/" + entry.Name
				if !yield(path, entry.Ino) {
					return
				}
				seen[entry.Ino]++
				if f.inodes[entry.Ino].Kind == api.Dir && seen[entry.Ino] == 1 {
					dirs = append(dirs, place{path, entry.Ino})
				}
			}
		}
	}
}

// reached are the first blocks and inode 0, and what the root leads to.
func (s *safe) reached() lists {
	var l lists
	for block := range api.FirstData {
		l.blocks = append(l.blocks, block)
	}
	for ino, n := range s.inodes {
		if ino == 0 || s.led[ino] > 0 {
			l.inodes = append(l.inodes, ino)
			l.blocks = append(l.blocks, n.Blocks...)
		}
	}
	slices.Sort(l.blocks)
	return l
}

// defects are what is used and not reached, and links that no entries stand for.
func (s *safe) defects() []api.Defect {
	var l []api.Defect
	reached := s.reached()
	for _, block := range lost(s.img[blockBits], reached.blocks) {
		l = append(l, api.Defect{What: api.LostBlock, Number: block})
	}
	for _, ino := range lost(s.img[inodeBits], reached.inodes) {
		l = append(l, api.Defect{What: api.LostInode, Number: ino})
	}
	for _, ino := range reached.inodes {
		if s.inodes[ino].Links > s.led[ino] {
			l = append(l, api.Defect{What: api.ManyLinks, Number: ino})
		}
	}
	return l
}

// lost are the bits that are set, and are none of those that are reached.
func lost(bits []byte, reached []int) []int {
	found, _ := bitset.Make(len(bits), reached...)
	return bitset.Without(bits, found)
}

// tree are the nodes of all paths, by their bytes.
func (s *safe) tree() []api.Node {
	var t []api.Node
	var first [api.Inodes]string
	for _, path := range slices.Sorted(maps.Keys(s.paths)) {
		ino := s.paths[path]
		if first[ino] == "" {
			first[ino] = path
		}
		t = append(t, api.Node{Path: path, Dir: s.inodes[ino].Kind == api.Dir, Data: s.data(ino), First: first[ino]})
	}
	return t
}

// find goes a path, name by name.
func (s *safe) find(path string) int {
	names, ok := split(path)
	need(ok, api.ErrForm)
	at, gone := api.Root, ""
	for _, name := range names {
		need(s.inodes[at].Kind == api.Dir, api.ErrNotdir)
		gone += "/" + name
		ino, ok := s.paths[gone]
		need(ok, api.ErrNoent)
		at = ino
	}
	return at
}

// split are a path's names; false: it is none.
func split(path string) ([]string, bool) {
	if path == "/" {
		return nil, true
	}
	rest, ok := strings.CutPrefix(path, "/")
	names := strings.Split(rest, "/")
	if !ok || len(names) > api.MaxDepth {
		return nil, false
	}
	for _, name := range names {
		if !layout.Name(name) {
			return nil, false
		}
	}
	return names, true
}
