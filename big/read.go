package big

import "selvedge/api"

// The slots of the file itself, behind the direct ones.
const (
	indirect = api.BigDirect + iota
	double
	ownSlots
)

// roots are the pointers of a file itself, by their slots.
type roots [ownSlots]int

func rootsOf(f api.Big) roots {
	own := roots{indirect: f.Indirect, double: f.Double}
	copy(own[:], f.Direct[:])
	return own
}

func (own roots) file() api.Big {
	return api.Big{Direct: [api.BigDirect]int(own[:api.BigDirect]), Indirect: own[indirect], Double: own[double]}
}

// isPlace: is there a k-th block?
func isPlace(k int) bool {
	return k >= 0 && k < api.BigBlocks
}

// way are the slots of a place.
func way(k int) []int {
	if k < api.BigDirect {
		return []int{k}
	}
	k -= api.BigDirect
	if k < api.Pointers {
		return []int{indirect, k}
	}
	k -= api.Pointers
	return []int{double, k / api.Pointers, k % api.Pointers}
}

// pointers are those of a file, and of an image.
type pointers struct {
	img [][]byte
	own roots
}

// pointer is what stands in a slot of a block of pointers; of block 0, which is none, it is the file's own.
func (p *pointers) pointer(holder, slot int) int {
	if holder == 0 {
		return p.own[slot]
	}
	return int(p.img[holder][slot])
}

// file is a big file that is right on its image.
type file struct {
	pointers
	places, blocks []int // of its blocks, rising by places
	inner          []int // its blocks of pointers
	pointed        [api.MaxBlocks]bool
}

// notRight is what reading panics with, if a file is not right.
type notRight struct{}

// need gives up a file, unless something is so.
func need(so bool) {
	if !so {
		panic(notRight{})
	}
}

// read reads a file that is right; of any other one it has an error.
func read(img [][]byte, f api.Big) (r *file, e api.Errno) {
	defer func() {
		switch fault := recover().(type) {
		case nil:
		case notRight:
			r, e = nil, api.ErrForm
		default:
			panic(fault) // a fault of the program's own is not hidden
		}
	}()
	need(len(img) <= api.MaxBlocks)
	for _, b := range img {
		need(len(b) == api.BlockSize)
	}
	r = &file{pointers: pointers{img, rootsOf(f)}}
	for slot := range api.BigDirect {
		r.follow(r.own[slot], 0, slot)
	}
	r.follow(r.own[indirect], 1, api.BigDirect)
	r.follow(r.own[double], 2, api.BigDirect+api.Pointers)
	return r, api.OK
}

// follow goes where a pointer leads, through so many blocks of pointers; place is that of the first block to which these lead.
func (r *file) follow(at, through, place int) {
	if at == 0 {
		return
	}
	need(at > 0 && at < len(r.img) && !r.pointed[at])
	r.pointed[at] = true
	if through == 0 {
		r.places, r.blocks = append(r.places, place), append(r.blocks, at)
		return
	}
	r.inner = append(r.inner, at)
	span := 1 // places that a slot leads to
	if through > 1 {
		span = api.Pointers
	}
	for slot, next := range r.img[at] {
		r.follow(int(next), through-1, place+slot*span)
	}
}

// end is where a way ends: at the last slot for which there is a block of pointers.
type end struct {
	holder, slot int   // as of pointer
	at           int   // what stands there
	rest         []int // the slots behind it, of blocks that are not there
}

// walk goes to the k-th block, as far as there is a way.
func (r *file) walk(k int) end {
	slots := way(k)
	on := end{0, slots[0], r.pointer(0, slots[0]), slots[1:]}
	for on.at != 0 && len(on.rest) > 0 {
		on = end{on.at, on.rest[0], r.pointer(on.at, on.rest[0]), on.rest[1:]}
	}
	return on
}
