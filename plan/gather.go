package plan

import (
	"slices"

	"selvedge/api"
	"selvedge/bitset"
	"selvedge/layout"
)

const (
	inodeSize  = 16 // bytes of an inode
	linksAt    = 1  // where in them its links are
	mapAt      = 2  // where its size and its blocks begin
	mostLinks  = 255
	mostBlocks = 8 // blocks of an inode
)

// plan gathers patches; the image inside is as they leave it.
type plan struct {
	*state
	items []api.Item
}

// noRoom is what gathering panics with, if there is no room.
type noRoom struct{}

// gathered are the patches of an operation that the tree of the image allows.
func gathered(img [][]byte, o api.Op) (items []api.Item, e api.Errno) {
	defer func() {
		switch r := recover().(type) {
		case nil:
		case noRoom:
			items, e = nil, api.ErrSpace
		default:
			panic(r) // a fault of the program's own is not hidden
		}
	}()
	p := &plan{state: stateOf(img)}
	p.gather(o)
	return p.items, api.OK
}

func (p *plan) gather(o api.Op) {
	switch o.Kind {
	case api.Create:
		p.create(o.Path, api.Inode{Kind: api.File, Links: 1})
	case api.Mkdir:
		p.create(o.Path, api.Inode{Kind: api.Dir, Links: 1})
	case api.Link:
		p.link(p.find(o.Path), o.Other)
	case api.Rename:
		p.rename(o.Path, o.Other)
	case api.Unlink, api.Rmdir:
		p.remove(o.Path)
	case api.Write:
		p.write(p.find(o.Path), o.Off, o.Data)
	case api.Truncate:
		p.truncate(p.find(o.Path))
	}
}

func (p *plan) create(path string, n api.Inode) {
	ino := p.free(inodeBits, api.Root+1, api.Inodes)
	bit := p.bit(inodeBits, ino, true)
	p.enter(path, ino, p.record(ino, n, bit))
}

// link lets one more path lead to a file: the patches of its links, and of the entry.
func (p *plan) link(ino int, path string) (links, entry int) {
	n := p.inode(ino)
	if n.Links == mostLinks {
		panic(noRoom{})
	}
	n.Links++
	links = p.links(ino, n)
	return links, p.enter(path, ino, links)
}

func (p *plan) rename(path, other string) {
	ino := p.find(path)
	links, entry := p.link(ino, other)
	// As P12.1 says, behind the new entry alone: not behind the mapping of a block that its directory gets for it.
	gone := p.leave(path, entry)
	n := p.inode(ino)
	n.Links--
	p.links(ino, n, links, entry, gone)
}

// remove takes a path away; what no path leads to then is free.
func (p *plan) remove(path string) {
	ino := p.find(path)
	gone := p.leave(path)
	n := p.inode(ino)
	if n.Links > 1 {
		n.Links--
		p.links(ino, n, gone)
		return
	}
	none := p.record(ino, api.Inode{}, gone)
	p.release(n.Blocks, none)
	p.bit(inodeBits, ino, false, none)
}

func (p *plan) write(ino, off int, data string) {
	n := p.inode(ino)
	there, end := len(n.Blocks), off+len(data)
	for at := off / api.BlockSize; at*api.BlockSize < end; at++ {
		begin := at * api.BlockSize
		from, to := max(off, begin), min(end, begin+api.BlockSize)
		piece := data[from-off : to-off]
		if at < there {
			p.add(n.Blocks[at], from-begin, piece)
			continue
		}
		// Off is not above Size, so a new block has Data from its first byte on.
		block, bit := p.take()
		p.fill(block, piece, bit)
		n.Blocks = append(n.Blocks, block)
	}
	if end > n.Size {
		n.Size = end
		p.mapping(ino, n, first(len(p.items))...)
	}
}

func (p *plan) truncate(ino int) {
	n := p.inode(ino)
	if n.Size == 0 {
		return
	}
	blocks := n.Blocks
	n.Size, n.Blocks = 0, nil
	p.release(blocks, p.mapping(ino, n))
}

// enter is the patch of an entry at a place in the directory of a path.
func (p *plan) enter(path string, ino, behind int) int {
	dir, name := p.ahead(path)
	block, off, deps := p.place(dir)
	b, _ := layout.Entry(api.Entry{Name: name, Ino: ino})
	return p.add(block, off, string(b), append(deps, behind)...)
}

// leave is the patch that takes the entry of a path away.
func (p *plan) leave(path string, behind ...int) int {
	dir, name := p.ahead(path)
	block, off, _ := p.entry(dir, name)
	return p.add(block, off, string(make([]byte, entrySize)), behind...)
}

// place is where in a directory an entry can stand, and what it comes behind there: that of a block which the directory gets for it.
func (p *plan) place(dir int) (block, off int, behind []int) {
	block, off, ok := p.entry(dir, "")
	if ok {
		return block, off, nil
	}
	n := p.inode(dir)
	if len(n.Blocks) == mostBlocks {
		panic(noRoom{})
	}
	block, bit := p.take()
	filled := p.fill(block, "", bit)
	n.Blocks = append(n.Blocks, block)
	p.mapping(dir, n, bit, filled)
	return block, 0, []int{filled}
}

// take is a free block, that is not free any more, and the patch of its bit, behind that of another one in the same byte.
func (p *plan) take() (block, bit int) {
	block = p.free(blockBits, api.FirstData, len(p.img))
	var behind []int
	for i, item := range p.items {
		if item.Patch.Block == blockBits && item.Patch.Off == block/8 {
			behind = []int{i}
		}
	}
	return block, p.bit(blockBits, block, true, behind...)
}

// release lets blocks be free: a patch of each byte of their bits that changes.
func (p *plan) release(blocks []int, behind int) {
	was := p.img[blockBits]
	left := was
	for _, block := range blocks {
		left, _ = bitset.Set(left, block, false)
	}
	for at := range was {
		if left[at] != was[at] {
			p.add(blockBits, at, string(left[at:at+1]), behind)
		}
	}
}

// bit is the patch of the byte in which a bit of a block stands.
func (p *plan) bit(block, i int, on bool, behind ...int) int {
	b, _ := bitset.Set(p.img[block], i, on)
	return p.add(block, i/8, string(b[i/8:i/8+1]), behind...)
}

// record is the patch of an inode's bytes; links that of its links alone; mapping that of its size and its blocks.
func (p *plan) record(ino int, n api.Inode, behind ...int) int {
	return p.piece(ino, n, 0, inodeSize, behind)
}

func (p *plan) links(ino int, n api.Inode, behind ...int) int {
	return p.piece(ino, n, linksAt, mapAt, behind)
}

func (p *plan) mapping(ino int, n api.Inode, behind ...int) int {
	return p.piece(ino, n, mapAt, inodeSize, behind)
}

// piece is the patch of an inode's bytes from one on to another one.
func (p *plan) piece(ino int, n api.Inode, from, to int, behind []int) int {
	b, _ := layout.Inode(n)
	block, off, _ := layout.Where(ino)
	return p.add(block, off+from, string(b[from:to]), behind...)
}

// fill is the patch of all bytes of a block: data, and 0.
func (p *plan) fill(block int, data string, behind int) int {
	b := make([]byte, api.BlockSize)
	copy(b, data)
	return p.add(block, 0, string(b), behind)
}

// add gathers one more patch, behind those: its number.
func (p *plan) add(block, off int, data string, behind ...int) int {
	deps := slices.Clone(behind)
	slices.Sort(deps)
	item := api.Item{Patch: api.Patch{Block: block, Off: off, Data: data}, Deps: slices.Compact(deps)}
	p.change(item.Patch)
	p.items = append(p.items, item)
	return len(p.items) - 1
}
