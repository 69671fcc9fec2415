package check

import (
	"selvedge/api"
	"selvedge/bitset"
	"selvedge/image"
	"selvedge/layout"
)

const (
	inodeBits = 1 // the block of the inodes' bits
	blockBits = 2 // the block of the blocks' bits
	linksAt   = 1 // where in an inode's bytes its links are
)

// found is a safe image with what is wrong in it, each kind rising. In such a one no bit is missing: what is wrong is set.
type found struct {
	img     [][]byte
	defects []api.Defect
	lost    [blockBits + 1][]int // by the block in which their bits stand: what nothing leads to
	many    []int                // files with too many links
}

// look is what is wrong in an image; ErrForm, if it is not safe.
func look(img [][]byte) (*found, api.Errno) {
	defects, e := image.Defects(img)
	if e != api.OK {
		return nil, e
	}
	f := &found{img: img, defects: defects}
	for _, d := range defects {
		f.tell(d)
	}
	return f, api.OK
}

// tell takes a defect in.
func (f *found) tell(d api.Defect) {
	bits := inodeBits
	switch d.What {
	case api.LostBlock:
		bits = blockBits
		fallthrough
	case api.LostInode:
		f.lost[bits] = append(f.lost[bits], d.Number)
	case api.ManyLinks:
		f.many = append(f.many, d.Number)
	}
}

// patches put all right: the inodes first, so that no bit goes of what one that is not free still has.
func (f *found) patches() []api.Patch {
	var l []api.Patch
	none, _ := layout.Inode(api.Inode{})
	for _, ino := range f.lost[inodeBits] {
		if n, _ := image.Inode(f.img, ino); n.Kind != api.Free {
			l = append(l, piece(ino, 0, none))
		}
	}
	counts, _ := Counts(f.img)
	for _, ino := range f.many {
		l = append(l, piece(ino, linksAt, []byte{byte(counts[ino])}))
	}
	l = append(l, f.unset(inodeBits)...)
	return append(l, f.unset(blockBits)...)
}

// unset are the patches of the bytes of a block in which bits are set that should not be.
func (f *found) unset(block int) []api.Patch {
	was := f.img[block]
	next := was
	for _, i := range f.lost[block] {
		next, _ = bitset.Set(next, i, false)
	}
	var l []api.Patch
	for at := range next {
		if next[at] != was[at] {
			l = append(l, api.Patch{Block: block, Off: at, Data: string(next[at : at+1])})
		}
	}
	return l
}

// piece is the patch of some of an inode's bytes, from one on.
func piece(ino, from int, b []byte) api.Patch {
	block, off, _ := layout.Where(ino)
	return api.Patch{Block: block, Off: off + from, Data: string(b)}
}
