package fd

import (
	"selvedge/api"
	"selvedge/image"
)

// opened is an open file, or an open directory.
type opened struct {
	ino, pos int
}

// descriptor is one; without an open file its number is not taken. Who is made by Dup has the same open file inside, and so the same position.
type descriptor struct {
	*opened
	flags int
}

func (d descriptor) isOpen() bool { return d.opened != nil }

// forked are the same descriptors, with open files of their own; who shared one does so again.
func forked(all [api.MaxFds]descriptor) [api.MaxFds]descriptor {
	own := all
	for n, d := range all {
		if !d.isOpen() {
			continue
		}
		fresh := *d.opened
		own[n].opened = &fresh
		for before, other := range all[:n] {
			if other.opened == d.opened {
				own[n].opened = own[before].opened
			}
		}
	}
	return own
}

// vacant is the least number that is not taken.
func (t *Table) vacant() (int, bool) {
	for n, d := range t.all {
		if !d.isOpen() {
			return n, true
		}
	}
	return 0, false
}

// has: is an inode open?
func (t *Table) has(ino int) bool {
	for _, d := range t.all {
		if d.isOpen() && d.ino == ino {
			return true
		}
	}
	return false
}

// ask is the descriptor of a number.
func (t *Table) ask(n int) (descriptor, api.Errno) {
	if t == nil {
		return descriptor{}, api.ErrNil
	}
	if n < 0 || n >= len(t.all) || !t.all[n].isOpen() {
		return descriptor{}, api.ErrNoent
	}
	return t.all[n], api.OK
}

// found is a descriptor, with what the system says of its inode now: that may have become another thing, as whoever has the system can do more than the table does.
type found struct {
	descriptor
	api.Inode
	path string // the least one
	data string
}

// find is what the system says of a descriptor's inode; false: no path leads to it.
func (t *Table) find(d descriptor) (found, bool) {
	img := t.system.Image()
	for _, node := range t.system.Tree() {
		if node.Path != node.First {
			continue // a lesser one leads there
		}
		if ino, _ := image.Find(img, node.Path); ino == d.ino {
			inode, _ := image.Inode(img, ino)
			return found{d, inode, node.Path, node.Data}, true
		}
	}
	return found{}, false
}

// bytes are at most so many of a file, from one on.
func (f found) bytes(from, many int) string {
	rest := f.data[min(from, len(f.data)):]
	return rest[:min(many, len(rest))]
}
