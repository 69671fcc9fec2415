package big

import (
	"slices"

	"selvedge/api"
	"selvedge/merge"
	"selvedge/patch"
)

// putting is how a block comes to a file: the patches, the file's own pointers behind it, and how many blocks of pointers are new.
type putting struct {
	items  []api.Item
	own    roots
	needed int
}

// planned is how the k-th block of a file comes to lie at a block.
func planned(img [][]byte, f api.Big, k, block int, free []int) (putting, api.Errno) {
	r, e := read(img, f)
	if e != api.OK {
		return putting{}, e
	}
	if e := r.refuses(k, block, free); e != api.OK {
		return putting{}, e
	}
	on := r.walk(k)
	if on.at != 0 {
		return putting{}, api.ErrBusy
	}
	needed := len(on.rest)
	if needed > len(free) {
		return putting{}, api.ErrSpace
	}
	// Each of these points to the next one. The third index keeps block out of the spare room of the caller's list.
	chain := append(free[:needed:needed], block)
	p := putting{own: r.own, needed: needed}
	for i, slot := range on.rest {
		p.add(whole(pointing(chain[i], slot, chain[i+1])))
	}
	if on.holder == 0 {
		p.own[on.slot] = chain[0]
	} else {
		p.add(pointing(on.holder, on.slot, chain[0]), first(needed)...)
	}
	return p, api.OK
}

// refuses is the error for which a block can't be put, wherever others lie.
func (r *file) refuses(k, block int, free []int) api.Errno {
	if !isPlace(k) {
		return api.ErrRange
	}
	some := slices.Concat([]int{block}, free)
	for _, at := range some {
		if at < 1 || at >= len(r.img) {
			return api.ErrRange
		}
	}
	taken := r.pointed
	for _, at := range some {
		if taken[at] {
			return api.ErrExist
		}
		taken[at] = true
	}
	return api.OK
}

func (p *putting) add(one api.Patch, behind ...int) {
	p.items = append(p.items, api.Item{Patch: one, Deps: behind})
}

// pointing is the patch that lets a slot of a block of pointers point to a block.
func pointing(holder, slot, at int) api.Patch {
	return api.Patch{Block: holder, Off: slot, Data: string([]byte{byte(at)})}
}

// whole is a patch of all bytes of its block: what p writes, and 0.
func whole(p api.Patch) api.Patch {
	b, _ := patch.Apply(make([]byte, api.BlockSize), p)
	return api.Patch{Block: p.Block, Data: string(b)}
}

// first are the first so many numbers.
func first(many int) []int {
	var l []int
	for i := range many {
		l = append(l, i)
	}
	return l
}

// cutting is what is left of a file, and which blocks it has left.
type cutting struct {
	pointers
	freed []int
}

// cut is a file without all from the k-th block on. The blocks of pointers go from the innermost on: one may be empty just because another one goes.
func (r *file) cut(k int) cutting {
	c := cutting{pointers: pointers{merge.Blocks(nil, nil, r.img), r.own}}
	for _, place := range r.places {
		if place >= k {
			on := r.walk(place)
			c.leave(on.holder, on.slot)
		}
	}
	if outer := c.own[double]; outer != 0 {
		for slot := range api.Pointers {
			c.leaveEmpty(outer, slot)
		}
	}
	c.leaveEmpty(0, indirect)
	c.leaveEmpty(0, double)
	return c
}

// leave lets a pointer be 0: what it pointed to is free.
func (c *cutting) leave(holder, slot int) {
	c.freed = append(c.freed, c.pointer(holder, slot))
	if holder == 0 {
		c.own[slot] = 0
		return
	}
	c.img[holder], _ = patch.Apply(c.img[holder], pointing(holder, slot, 0))
}

// leaveEmpty does so, if the pointer leads to a block of pointers that has none but 0.
func (c *cutting) leaveEmpty(holder, slot int) {
	at := c.pointer(holder, slot)
	if at != 0 && [api.BlockSize]byte(c.img[at]) == [api.BlockSize]byte{} {
		c.leave(holder, slot)
	}
}
