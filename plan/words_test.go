package plan

import (
	"math/rand"
	"slices"
	"strings"
	"testing"

	"selvedge/api"
	"selvedge/graph"
	"selvedge/image"
	"selvedge/tree"
)

// hand gathers a plan by the words alone, byte by byte.
type hand struct {
	img   [][]byte // as the patches leave it
	items []api.Item
	full  bool // there was no room
}

func handOf(img [][]byte) *hand {
	h := &hand{}
	for _, b := range img {
		h.img = append(h.img, slices.Clone(b))
	}
	return h
}

// patch is one more, behind those.
func (h *hand) patch(block, off int, data string, deps ...int) int {
	copy(h.img[block][off:], data)
	slices.Sort(deps)
	h.items = append(h.items, item(block, off, data, deps...))
	return len(h.items) - 1
}

func (h *hand) bit(block, n int, on bool, deps ...int) int {
	b := h.img[block][n/8] &^ (1 << (n % 8))
	if on {
		b |= 1 << (n % 8)
	}
	return h.patch(block, n/8, string([]byte{b}), deps...)
}

// first is the first number that is not set.
func (h *hand) first(block, from, to int) int {
	for n := from; n < to; n++ {
		if h.img[block][n/8]>>(n%8)&1 == 0 {
			return n
		}
	}
	h.full = true
	return from
}

// bytesOf are an inode's 16 bytes, to be read and to be written.
func (h *hand) bytesOf(ino int) []byte { return h.img[3+ino/2][ino%2*16:][:16] }

// part is the patch of some of an inode's bytes.
func (h *hand) part(ino, off int, data string, deps ...int) int {
	return h.patch(3+ino/2, ino%2*16+off, data, deps...)
}

// blocksOf are an inode's blocks.
func (h *hand) blocksOf(ino int) []int {
	var l []int
	for _, b := range h.bytesOf(ino)[8:] {
		if b != 0 {
			l = append(l, int(b))
		}
	}
	return l
}

// mapping is the text of MAP.
func mapping(size int, blocks []int) string {
	b := make([]byte, 14)
	b[0], b[1] = byte(size%256), byte(size/256)
	for i, block := range blocks {
		b[6+i] = byte(block)
	}
	return string(b)
}

// place is one in a directory: its block and off, and the patch of the block's 0, or -1.
func (h *hand) place(dir int) (int, int, int) {
	blocks := h.blocksOf(dir)
	for _, b := range blocks {
		for off := 0; off < 32; off += 8 {
			if string(h.img[b][off:off+8]) == zeros(8) {
				return b, off, -1
			}
		}
	}
	if len(blocks) == 8 {
		h.full = true
		return 11, 0, -1
	}
	b := h.first(2, 11, len(h.img))
	bit := h.bit(2, b, true)
	zero := h.patch(b, 0, zeros(32), bit)
	h.part(dir, 2, mapping(0, append(blocks, b)), bit, zero)
	return b, 0, zero
}

// parent is the directory of a path, and its last name.
func parent(img [][]byte, path string) (int, string) {
	at := strings.LastIndex(path, "/")
	above := path[:at]
	if above == "" {
		above = "/"
	}
	ino, _ := image.Find(img, above)
	return ino, path[at+1:]
}

// entry is the patch of a new one, behind another patch and the block's 0.
func (h *hand) entry(dir int, name string, ino, behind int) int {
	b, off, zero := h.place(dir)
	deps := []int{behind}
	if zero >= 0 {
		deps = append(deps, zero)
	}
	return h.patch(b, off, filled(string([]byte{byte(ino)})+name, 8), deps...)
}

// gone is the patch of an old one.
func (h *hand) gone(dir int, name string, deps ...int) int {
	for _, b := range h.blocksOf(dir) {
		for off := 0; off < 32; off += 8 {
			if string(h.img[b][off+1:off+8]) == filled(name, 7) {
				return h.patch(b, off, zeros(8), deps...)
			}
		}
	}
	panic("no such entry")
}

// unset are the patches of the bytes in which blocks have bits.
func (h *hand) unset(blocks []int, behind int) {
	for at := range 32 {
		b := h.img[2][at]
		for _, block := range blocks {
			if block/8 == at {
				b &^= 1 << (block % 8)
			}
		}
		if b != h.img[2][at] {
			h.patch(2, at, string([]byte{b}), behind)
		}
	}
}

func (h *hand) write(ino, off int, data string) {
	size := int(h.bytesOf(ino)[2]) + 256*int(h.bytesOf(ino)[3])
	blocks := h.blocksOf(ino)
	for i, block := range blocks {
		from, to := max(off, 32*i), min(off+len(data), 32*i+32)
		if from < to {
			h.patch(block, from-32*i, data[from-off:to-off])
		}
	}
	last := -1
	for i := len(blocks); 32*i < off+len(data); i++ {
		b := h.first(2, 11, len(h.img))
		var deps []int
		if last >= 0 && h.items[last].Patch.Off == b/8 {
			deps = append(deps, last)
		}
		last = h.bit(2, b, true, deps...)
		text := data[32*i-off:]
		h.patch(b, 0, filled(text[:min(len(text), 32)], 32), last)
		blocks = append(blocks, b)
	}
	if off+len(data) > size {
		var deps []int
		for i := range h.items {
			deps = append(deps, i)
		}
		h.part(ino, 2, mapping(off+len(data), blocks), deps...)
	}
}

func (h *hand) remove(ino, dir int, name string) {
	gone := h.gone(dir, name)
	if links := h.bytesOf(ino)[1]; links > 1 {
		h.part(ino, 1, string([]byte{links - 1}), gone)
		return
	}
	blocks := h.blocksOf(ino)
	rec := h.part(ino, 0, zeros(16), gone)
	h.unset(blocks, rec)
	h.bit(1, ino, false, rec)
}

// planByWords is the plan of an operation that the tree allows; false: there is no room.
func planByWords(img [][]byte, o api.Op) ([]api.Item, bool) {
	h := handOf(img)
	ino, _ := image.Find(img, o.Path)
	dir, name := parent(img, o.Path)
	links := h.bytesOf(ino)[1]
	switch o.Kind {
	case api.Create, api.Mkdir:
		n := h.first(1, 2, 16)
		bit := h.bit(1, n, true)
		h.entry(dir, name, n, h.part(n, 0, filled(string([]byte{byte(o.Kind), 1}), 16), bit))
	case api.Link, api.Rename:
		if links == 255 {
			return nil, false
		}
		other, called := parent(img, o.Other)
		more := h.part(ino, 1, string([]byte{links + 1}))
		entry := h.entry(other, called, ino, more)
		if o.Kind == api.Rename && !h.full {
			h.part(ino, 1, string([]byte{links}), more, entry, h.gone(dir, name, entry))
		}
	case api.Unlink, api.Rmdir:
		h.remove(ino, dir, name)
	case api.Write:
		h.write(ino, o.Off, o.Data)
	case api.Truncate:
		if blocks := h.blocksOf(ino); len(blocks) > 0 {
			h.unset(blocks, h.part(ino, 2, zeros(14)))
		}
	}
	return h.items, !h.full
}

// holds fails the test unless a plan that there is leaves, behind each closed set, what the words say; and the others answer as it does. Of many sets it takes some.
func holds(t *testing.T, img [][]byte, o api.Op) {
	t.Helper()
	l, e := Plan(img, o)
	was, r := image.Tree(img)
	behind, _ := tree.Apply(was, o)
	if e != api.OK || r != api.OK {
		t.Fatal(o, e, r)
	}
	deps := make([][]int, len(l))
	for i, item := range l {
		deps[i] = item.Deps
		if !slices.IsSorted(item.Deps) || len(slices.Compact(slices.Clone(item.Deps))) != len(item.Deps) {
			t.Fatal(o, "Deps", item.Deps)
		}
	}
	step := 1
	if len(l) > 7 {
		step = 7
	}
	for bits := 0; bits < 1<<len(l); bits += step {
		var set []int
		for i := range l {
			if bits>>i&1 == 1 {
				set = append(set, i)
			}
		}
		got, e := Some(img, o, set)
		if !graph.Closed(deps, set) {
			if e != api.ErrForm || len(got) != 0 {
				t.Fatal(o, set, e)
			}
			continue
		}
		is, r := image.Tree(got)
		if e != api.OK || r != api.OK || !mayBe(o, was, behind, is) && !without(o, was, is, l, set) {
			t.Fatal(o, set, l, e, r, is)
		}
	}
	holdsSteps(t, img, o, l, behind)
}

// holdsSteps fails the test unless Do and Steps are the plan's patches, one behind the other.
func holdsSteps(t *testing.T, img [][]byte, o api.Op, l []api.Item, behind []api.Node) {
	t.Helper()
	steps, e := Steps(img, o)
	if e != api.OK || len(steps) != len(l) {
		t.Fatal(o, e, len(steps))
	}
	h := handOf(img)
	for i, item := range l {
		if h.patch(item.Patch.Block, item.Patch.Off, item.Patch.Data); !sameImage(h.img, steps[i]) {
			t.Fatal(o, "step", i)
		}
	}
	done, e := Do(img, o)
	if is, r := image.Tree(done); e != api.OK || r != api.OK || !sameImage(done, h.img) || !tree.Same(is, behind) {
		t.Fatal(o, e, r, is)
	}
	if image.Clean(img) && !image.Clean(done) {
		t.Fatal(o, "leaves defects")
	}
}

// mayBe: may this be the tree behind some of an operation's patches?
func mayBe(o api.Op, was, behind, is []api.Node) bool {
	if tree.Same(is, was) || tree.Same(is, behind) {
		return true
	}
	switch o.Kind {
	case api.Rename:
		both, e := tree.Apply(was, api.Op{Kind: api.Link, Path: o.Path, Other: o.Other})
		return e == api.OK && tree.Same(is, both)
	case api.Write:
		old, _ := tree.Get(was, o.Path)
		next, _ := tree.Get(behind, o.Path)
		for i, n := range is {
			if n.First == old.First {
				if len(n.Data) != len(old.Data) {
					return false
				}
				for at := range len(n.Data) {
					if n.Data[at] != old.Data[at] && n.Data[at] != next.Data[at] {
						return false
					}
				}
				n.Data = old.Data
			}
			if len(is) != len(was) || n != was[i] {
				return false
			}
		}
		return true
	}
	return false
}

// without: is this the tree without either name, as it may be behind a part of a Rename whose new entry stands in a block that the directory has not yet? P12.1 lets the old entry go behind the new one alone, and not behind MAP.
func without(o api.Op, was, is []api.Node, l []api.Item, set []int) bool {
	if o.Kind != api.Rename || len(l) != 7 || slices.Contains(set, 3) || !slices.Contains(set, 5) {
		return false
	}
	gone, e := tree.Apply(was, api.Op{Kind: api.Unlink, Path: o.Path})
	return e == api.OK && tree.Same(is, gone)
}

// chanceOp is an operation, most often one that may be.
func chanceOp(chance *rand.Rand, t []api.Node) api.Op {
	path := func(fresh int) string {
		p := t[chance.Intn(len(t))].Path
		if chance.Intn(4) >= fresh && p != "/" || strings.Count(p, "/") == 4 {
			return p
		}
		return strings.TrimRight(p, "/") + "/" + string([]byte{byte('a' + chance.Intn(12))})
	}
	o := api.Op{Kind: api.OpKind(1 + chance.Intn(8))}
	switch o.Kind {
	case api.Create, api.Mkdir:
		o.Path = path(3)
	default:
		o.Path = path(1)
	}
	switch o.Kind {
	case api.Link, api.Rename:
		o.Other = path(3)
	case api.Write:
		n, _ := tree.Get(t, o.Path)
		o.Off = []int{0, len(n.Data), len(n.Data), chance.Intn(len(n.Data) + 1), chance.Intn(257)}[chance.Intn(5)]
		o.Data = strings.Repeat(string(rune('a'+chance.Intn(26))), 1+chance.Intn(64))
	}
	return o
}

// P12.1 to P12.5, E1, E3, E6, E7: long rows of operations, of which some stop half way, against the words.
func TestAgainstTheWords(t *testing.T) {
	chance := rand.New(rand.NewSource(12))
	var errs [16]int
	var done [16]int
	for range 100 {
		img := made(t, 16+chance.Intn(2)*chance.Intn(24))
		for range 80 {
			is, _ := image.Tree(img)
			o := chanceOp(chance, is)
			_, want := tree.Apply(is, o)
			var items []api.Item
			if want == api.OK {
				l, room := planByWords(img, o)
				if items = l; !room {
					want, items = api.ErrSpace, nil
				}
			}
			errs[want]++
			if want != api.OK {
				refuses(t, img, o, want)
				continue
			}
			done[o.Kind]++
			if l, e := Plan(img, o); e != api.OK || !same(l, items) {
				t.Fatal(o, e, l, "not", items)
			}
			holds(t, img, o)
			img = left(t, chance, img, o, len(items))
		}
	}
	for _, e := range []api.Errno{api.OK, api.ErrRange, api.ErrSpace, api.ErrNoent, api.ErrExist, api.ErrNotdir, api.ErrIsdir, api.ErrNotempty} {
		if errs[e] < 20 {
			t.Error("too few of", e, errs)
		}
	}
	for kind := api.Create; kind <= api.Truncate; kind++ {
		if done[kind] < 20 {
			t.Error("too few of kind", kind, done)
		}
	}
}

// left is the image behind an operation, or, now and then, behind a part of it.
func left(t *testing.T, chance *rand.Rand, img [][]byte, o api.Op, patches int) [][]byte {
	t.Helper()
	next, e := Do(img, o)
	if steps, r := Steps(img, o); chance.Intn(8) == 0 && patches > 0 {
		next, e = steps[chance.Intn(patches)], r
	}
	blocks, inodes, r := Free(next)
	used, all, _ := image.Used(next)
	if e != api.OK || r != api.OK || blocks != len(next)-len(used) || inodes != 16-len(all) {
		t.Fatal(o, e, r, blocks, inodes)
	}
	return next
}
