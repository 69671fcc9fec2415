package plan

import (
	"slices"
	"strings"

	"selvedge/api"
	"selvedge/bitset"
	"selvedge/image"
	"selvedge/layout"
	"selvedge/patch"
)

const (
	inodeBits = 1 // the block of the inodes' bits
	blockBits = 2 // the block of the blocks' bits
	entrySize = 8 // bytes of an entry
)

// state is a safe image as the patches leave it.
type state struct {
	img [][]byte
}

// stateOf is an image behind no patches. The blocks themselves are never changed: a patch sets another one in their place.
func stateOf(img [][]byte) *state {
	return &state{slices.Clone(img)}
}

// change lets the image be as p leaves it.
func (s *state) change(p api.Patch) {
	s.img[p.Block], _ = patch.Apply(s.img[p.Block], p)
}

// inode is an inode, to be changed.
func (s *state) inode(ino int) api.Inode {
	n, _ := image.Inode(s.img, ino)
	return n
}

// find is the inode of a path that is there.
func (s *state) find(path string) int {
	ino, _ := image.Find(s.img, path)
	return ino
}

// ahead cuts a path: the inode of the directory, and the name in it.
func (s *state) ahead(path string) (dir int, name string) {
	at := strings.LastIndexByte(path, '/')
	return s.find(path[:max(at, 1)]), path[at+1:]
}

// free is the first bit of a block from one on, and of so many, that is not set; without one there is no room.
func (s *state) free(block, from, many int) int {
	i, ok := bitset.First(s.img[block], from, many)
	if !ok {
		panic(noRoom{})
	}
	return i
}

// entry is where in a directory the first entry of a name stands (of the empty name: the first eight bytes 0).
func (s *state) entry(dir int, name string) (block, off int, ok bool) {
	for _, block := range s.inode(dir).Blocks {
		for off := 0; off < api.BlockSize; off += entrySize {
			if entry, _ := layout.ReadEntry(s.img[block][off : off+entrySize]); entry.Name == name {
				return block, off, true
			}
		}
	}
	return 0, 0, false
}
