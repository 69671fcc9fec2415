package image

import (
	"selvedge/api"
	"selvedge/bitset"
	"selvedge/layout"
)

// formed is an image that is formed, with its inodes.
type formed struct {
	img    [][]byte
	inodes [api.Inodes]api.Inode
}

// lists are blocks and inodes, both rising.
type lists struct {
	blocks, inodes []int
}

// read reads a formed image; any other one it gives up.
func read(img [][]byte) *formed {
	need(len(img) > 0, api.ErrForm)
	blocks, e := layout.ReadSuper(img[0])
	need(e == api.OK && blocks == len(img), api.ErrForm)
	for _, b := range img {
		need(len(b) == api.BlockSize, api.ErrForm)
	}
	needBits(img[inodeBits], api.Root+1, api.Inodes)
	needBits(img[blockBits], api.FirstData, len(img))
	f := &formed{img: img}
	for ino := range f.inodes {
		f.inodes[ino] = f.readInode(ino)
	}
	need(f.inodes[0].Kind == api.Free && f.inodes[api.Root].Kind == api.Dir, api.ErrForm)
	return f
}

// needBits gives up, unless the first bits are all set, and of those from there on none is.
func needBits(b []byte, first, there int) {
	_, gap := bitset.First(b, 0, first)
	need(!gap, api.ErrForm)
	for _, i := range bitset.List(b) {
		need(i < there, api.ErrForm)
	}
}

// readInode reads an inode from its bytes.
func (f *formed) readInode(ino int) api.Inode {
	block, off, _ := layout.Where(ino)
	n, e := layout.ReadInode(f.img[block][off : off+inodeSize])
	need(e == api.OK, api.ErrForm)
	for _, b := range n.Blocks {
		need(b < len(f.img), api.ErrForm)
	}
	return n
}

// inode is one of the image's.
func (f *formed) inode(ino int) api.Inode {
	need(ino >= 0 && ino < len(f.inodes), api.ErrRange)
	return f.inodes[ino]
}

// entries are those of a directory, in order.
func (f *formed) entries(ino int) []api.Entry {
	var l []api.Entry
	for _, block := range f.inodes[ino].Blocks {
		for off := 0; off < api.BlockSize; off += entrySize {
			entry, e := layout.ReadEntry(f.img[block][off : off+entrySize])
			need(e == api.OK, api.ErrForm)
			if entry != (api.Entry{}) {
				l = append(l, entry)
			}
		}
	}
	return l
}

// data are a file's bytes; of others there are none.
func (f *formed) data(ino int) string {
	n := f.inodes[ino]
	var all []byte
	for _, block := range n.Blocks {
		all = append(all, f.img[block]...)
	}
	return string(all[:n.Size])
}

// used are those whose bits are set.
func (f *formed) used() lists {
	return lists{bitset.List(f.img[blockBits]), bitset.List(f.img[inodeBits])}
}
