package check

import (
	"bytes"
	"math"
	"slices"
	"strings"
	"testing"

	"selvedge/api"
	"selvedge/image"
	"selvedge/layout"
)

// made is a new image.
func made(t *testing.T, blocks int) [][]byte {
	t.Helper()
	img, e := image.Make(blocks)
	if e != api.OK {
		t.Fatal("Make", blocks, e)
	}
	return img
}

// mark sets the bits of a block.
func mark(img [][]byte, block int, l ...int) {
	for _, i := range l {
		img[block][i/8] |= 1 << (i % 8)
	}
}

// put writes an inode, and sets its bit and those of its blocks.
func put(img [][]byte, ino int, kind api.Kind, links, size int, blocks ...int) {
	b, e := layout.Inode(api.Inode{Kind: kind, Links: links, Size: size, Blocks: blocks})
	if e != api.OK {
		panic("no such inode")
	}
	copy(img[3+ino/2][ino%2*16:], b)
	mark(img, 1, ino)
	mark(img, 2, blocks...)
}

// enter writes an entry at a place of a block.
func enter(img [][]byte, block, at int, name string, ino byte) {
	copy(img[block][at*8:at*8+8], string([]byte{ino})+name+strings.Repeat("\x00", 7))
}

// sound is an image without defects: /, /a (inode 2, two links), /d (3), /d/b (2), /d/e (4), /f (7).
func sound(t *testing.T) [][]byte {
	t.Helper()
	img := made(t, 48)
	put(img, 1, api.Dir, 1, 0, 11)
	put(img, 2, api.File, 2, 40, 13, 12)
	put(img, 3, api.Dir, 1, 0, 14)
	put(img, 4, api.File, 1, 0)
	put(img, 7, api.File, 1, 32, 16)
	enter(img, 11, 0, "a", 2)
	enter(img, 11, 3, "d", 3)
	enter(img, 11, 1, "f", 7)
	enter(img, 14, 1, "b", 2)
	enter(img, 14, 2, "e", 4)
	copy(img[13], "a and b")
	if !image.Clean(img) {
		t.Fatal("not clean")
	}
	return img
}

// spoiled is the same tree, with defects of each kind.
func spoiled(t *testing.T) [][]byte {
	t.Helper()
	img := sound(t)
	put(img, 2, api.File, 5, 40, 13, 12)
	put(img, 7, api.File, 255, 32, 16)
	put(img, 5, api.File, 2, 64, 21, 20)
	put(img, 6, api.Dir, 1, 0, 22)
	enter(img, 22, 0, "x", 2) // of a directory that is lost: none of these counts
	enter(img, 22, 1, "y", 6)
	enter(img, 22, 2, "??", 255)
	put(img, 15, api.File, 255, 0)
	mark(img, 1, 9)
	mark(img, 2, 23, 40, 47)
	if !image.Safe(img) {
		t.Fatal("not safe")
	}
	return img
}

func zeros(many int) string { return strings.Repeat("\x00", many) }

func sameImage(a, b [][]byte) bool { return slices.EqualFunc(a, b, bytes.Equal) }

// plans fails the test unless the patches that an image asks for are those.
func plans(t *testing.T, img [][]byte, want ...api.Patch) {
	t.Helper()
	if l, e := Plan(img); e != api.OK || !slices.Equal(l, want) {
		t.Error(e, l, "not", want)
	}
	holds(t, img)
}

// Example 1.
func TestExample(t *testing.T) {
	img := made(t, 16)
	mark(img, 2, 12)
	plans(t, img, api.Patch{Block: 2, Off: 1, Data: "\x07"})
	next, defects, e := Check(img)
	if e != api.OK || !slices.Equal(defects, []api.Defect{{What: api.LostBlock, Number: 12}}) || !sameImage(next, made(t, 16)) {
		t.Error(e, defects)
	}
}

// P14.1: of an image without defects there is nothing to write.
func TestPlanOfSound(t *testing.T) {
	for blocks := api.MinBlocks; blocks <= api.MaxBlocks; blocks++ {
		plans(t, made(t, blocks))
	}
	plans(t, sound(t))
	next, defects, e := Check(sound(t))
	if e != api.OK || len(defects) != 0 || !sameImage(next, sound(t)) {
		t.Error(e, defects)
	}
}

// P14.1: each kind, in their order, each rising.
func TestPlan(t *testing.T) {
	plans(t, spoiled(t),
		api.Patch{Block: 5, Off: 16, Data: zeros(16)}, api.Patch{Block: 6, Off: 0, Data: zeros(16)}, api.Patch{Block: 10, Off: 16, Data: zeros(16)},
		api.Patch{Block: 4, Off: 1, Data: "\x02"}, api.Patch{Block: 6, Off: 17, Data: "\x01"},
		api.Patch{Block: 1, Off: 0, Data: "\x9f"}, api.Patch{Block: 1, Off: 1, Data: "\x00"},
		// Of bytes 3 and 4 no bit is set, of bytes 0 and 1 none is wrong.
		api.Patch{Block: 2, Off: 2, Data: "\x01"}, api.Patch{Block: 2, Off: 5, Data: "\x00"})

	img := sound(t)
	mark(img, 1, 8, 15)
	plans(t, img, api.Patch{Block: 1, Off: 1, Data: "\x00"}) // what is free is not written again
	img = sound(t)
	put(img, 7, api.File, 2, 32, 16)
	plans(t, img, api.Patch{Block: 6, Off: 17, Data: "\x01"})
	img = sound(t)
	put(img, 8, api.Dir, 1, 0)
	plans(t, img, api.Patch{Block: 7, Off: 0, Data: zeros(16)}, api.Patch{Block: 1, Off: 1, Data: "\x00"})
	img = sound(t)
	put(img, 10, api.File, 1, 40, 46, 24) // its blocks' bits stand in two bytes
	plans(t, img, api.Patch{Block: 8, Off: 0, Data: zeros(16)}, api.Patch{Block: 1, Off: 1, Data: "\x00"}, api.Patch{Block: 2, Off: 3, Data: "\x00"}, api.Patch{Block: 2, Off: 5, Data: "\x00"})
}

// P14.1: two directories that nothing but themselves leads to are lost, and what they lead to.
func TestPlanOfRing(t *testing.T) {
	img := sound(t)
	put(img, 8, api.Dir, 1, 0, 30)
	put(img, 9, api.Dir, 1, 0, 31)
	put(img, 12, api.File, 1, 0)
	enter(img, 30, 0, "n", 9)
	enter(img, 31, 0, "n", 8)
	enter(img, 31, 3, "f", 12)
	plans(t, img, api.Patch{Block: 7, Off: 0, Data: zeros(16)}, api.Patch{Block: 7, Off: 16, Data: zeros(16)}, api.Patch{Block: 9, Off: 0, Data: zeros(16)}, api.Patch{Block: 1, Off: 1, Data: "\x00"}, api.Patch{Block: 2, Off: 3, Data: "\x00"})
	next, _, _ := Check(img)
	want := sound(t)
	copy(want[30], img[30])
	copy(want[31], img[31])
	if !sameImage(next, want) {
		t.Error("something but what is lost is written")
	}
}

// P14.1, P14.2
func TestCheckTellsDefects(t *testing.T) {
	next, defects, e := Check(spoiled(t))
	want := []api.Defect{
		{What: api.LostBlock, Number: 20}, {What: api.LostBlock, Number: 21}, {What: api.LostBlock, Number: 22}, {What: api.LostBlock, Number: 23}, {What: api.LostBlock, Number: 40}, {What: api.LostBlock, Number: 47},
		{What: api.LostInode, Number: 5}, {What: api.LostInode, Number: 6}, {What: api.LostInode, Number: 9}, {What: api.LostInode, Number: 15},
		{What: api.ManyLinks, Number: 2}, {What: api.ManyLinks, Number: 7},
	}
	if e != api.OK || !slices.Equal(defects, want) {
		t.Error(e, defects)
	}
	same := sound(t)
	copy(same[22], spoiled(t)[22]) // bytes of data are not written
	if !sameImage(next, same) {
		t.Error("not as it was")
	}
	blocks, inodes, e := Lost(spoiled(t))
	if e != api.OK || !slices.Equal(blocks, []int{20, 21, 22, 23, 40, 47}) || !slices.Equal(inodes, []int{5, 6, 9, 15}) {
		t.Error(blocks, inodes, e)
	}
	if blocks, inodes, e := Lost(sound(t)); e != api.OK || len(blocks) != 0 || len(inodes) != 0 {
		t.Error(blocks, inodes, e)
	}
}

// P14.2: of each inode; entries of directories that are lost do not count.
func TestCounts(t *testing.T) {
	for _, img := range [][][]byte{sound(t), spoiled(t)} {
		if l, e := Counts(img); e != api.OK || !slices.Equal(l, []int{0, 0, 2, 1, 1, 0, 0, 1, 0, 0, 0, 0, 0, 0, 0, 0}) {
			t.Error(l, e)
		}
	}
	if l, e := Counts(made(t, 16)); e != api.OK || !slices.Equal(l, make([]int, 16)) {
		t.Error(l, e)
	}
	// Eight blocks of entries of one file.
	img := made(t, 32)
	put(img, 1, api.Dir, 1, 0, 11, 12, 13, 14, 15, 16, 17, 18)
	put(img, 15, api.File, 200, 0)
	for i := range 32 {
		enter(img, 11+i/4, i%4, string(rune('a'+i%26))+string(rune('a'+i/26)), 15)
	}
	if l, e := Counts(img); e != api.OK || !slices.Equal(l, append(make([]int, 15), 32)) {
		t.Error(l, e)
	}
	plans(t, img, api.Patch{Block: 10, Off: 17, Data: " "})
}

// P14.1
func TestBound(t *testing.T) {
	for blocks := -100; blocks < 400; blocks++ {
		want := 0
		if blocks >= 16 && blocks <= 96 {
			want = 16
			for rest := blocks; rest > 0; rest -= 8 {
				want++
			}
		}
		if Bound(blocks) != want {
			t.Error(blocks, Bound(blocks), "not", want)
		}
	}
	for _, blocks := range []int{math.MinInt, math.MaxInt, math.MinInt + 15, math.MaxInt - 7, 1 << 32} {
		if Bound(blocks) != 0 {
			t.Error(blocks, Bound(blocks))
		}
	}
}

// P14.5: all is wrong that can be.
func TestMostPatches(t *testing.T) {
	for blocks := api.MinBlocks; blocks <= api.MaxBlocks; blocks++ {
		img := made(t, blocks)
		for i := api.FirstData; i < blocks; i++ {
			mark(img, 2, i)
		}
		for ino := 2; ino < api.Inodes; ino++ {
			put(img, ino, api.File, 255, 0)
		}
		l, e := Plan(img)
		if e != api.OK || len(l) != Bound(blocks)-1 { // of the blocks' bits the first byte is always right
			t.Error(blocks, e, len(l))
		}
		holds(t, img)
	}
}

// refuses fails the test unless all that is asked of an image has ErrForm, and nothing beside.
func refuses(t *testing.T, what string, img [][]byte) {
	t.Helper()
	if l, e := Plan(img); e != api.ErrForm || len(l) != 0 {
		t.Error(what, "Plan", l, e)
	}
	if next, l, e := Check(img); e != api.ErrForm || len(l) != 0 || len(next) != 0 {
		t.Error(what, "Check", l, e)
	}
	if blocks, inodes, e := Lost(img); e != api.ErrForm || len(blocks) != 0 || len(inodes) != 0 {
		t.Error(what, "Lost", blocks, inodes, e)
	}
	if l, e := Counts(img); e != api.ErrForm || len(l) != 0 {
		t.Error(what, "Counts", l, e)
	}
}

// P14.1, P14.2: what is not safe is refused.
func TestForm(t *testing.T) {
	for what, change := range map[string]func(img [][]byte) [][]byte{
		"nil":                func([][]byte) [][]byte { return nil },
		"no blocks":          func([][]byte) [][]byte { return [][]byte{} },
		"blocks of nothing":  func(img [][]byte) [][]byte { return make([][]byte, len(img)) },
		"one block less":     func(img [][]byte) [][]byte { return img[:47] },
		"one block more":     func(img [][]byte) [][]byte { return append(img, make([]byte, 32)) },
		"a short block":      func(img [][]byte) [][]byte { img[40] = img[40][:31]; return img },
		"a long block":       func(img [][]byte) [][]byte { img[40] = make([]byte, 33); return img },
		"no root":            func(img [][]byte) [][]byte { img[3][16] = 0; return img },
		"inode 1 free":       func(img [][]byte) [][]byte { img[1][0] &^= 2; return img },
		"block 10 free":      func(img [][]byte) [][]byte { img[2][1] &^= 4; return img },
		"no such block":      func(img [][]byte) [][]byte { mark(img, 2, 48); return img },
		"an inode's bit":     func(img [][]byte) [][]byte { img[1][0] &^= 1 << 4; return img },
		"a lost inode's bit": func(img [][]byte) [][]byte { img[1][1] &^= 1 << 7; return img },
		"a block's bit":      func(img [][]byte) [][]byte { img[2][2] &^= 1; return img },
		"too few links":      func(img [][]byte) [][]byte { img[4][1] = 1; return img },
		"a wrong name":       func(img [][]byte) [][]byte { enter(img, 14, 0, "A", 4); return img },
		"a name twice":       func(img [][]byte) [][]byte { enter(img, 14, 0, "b", 7); return img },
		"an entry of none":   func(img [][]byte) [][]byte { enter(img, 14, 0, "n", 9); return img },
		"an entry of a dir":  func(img [][]byte) [][]byte { enter(img, 14, 0, "n", 3); return img },
		"an entry of a root": func(img [][]byte) [][]byte { enter(img, 14, 0, "n", 1); return img },
		"a block of two":     func(img [][]byte) [][]byte { put(img, 15, api.File, 1, 1, 16); return img },
		"no inode":           func(img [][]byte) [][]byte { img[10][16] = 3; return img },
		"a block not there":  func(img [][]byte) [][]byte { put(img, 15, api.File, 1, 1, 60); img[2][7] = 0; return img },
		"blocks of zeros":    func([][]byte) [][]byte { return slices.Repeat([][]byte{make([]byte, 32)}, 48) },
	} {
		refuses(t, what, change(spoiled(t)))
	}
}

// P3 of the rules, E7: what is handed in stays as it is, what is answered is the caller's.
func TestNothingChanges(t *testing.T) {
	for _, of := range []func(t *testing.T) [][]byte{sound, spoiled} {
		was, img := of(t), of(t)
		for i, b := range img {
			img[i] = append(b, "spare room"...)[:32]
		}
		img = append(img, []byte("spare room"))[:48]
		next, defects, _ := Check(img)
		patches, _ := Plan(img)
		blocks, inodes, _ := Lost(img)
		counts, _ := Counts(img)
		for _, b := range next {
			clear(b[:cap(b)])
		}
		clear(next[:cap(next)])
		clear(defects[:cap(defects)])
		clear(patches[:cap(patches)])
		clear(blocks[:cap(blocks)])
		clear(inodes[:cap(inodes)])
		clear(counts[:cap(counts)])
		if !sameImage(img, was) || string(img[:49][48]) != "spare room" {
			t.Error("the image is changed")
		}
		for _, b := range img {
			if string(b[:42][32:]) != "spare room" {
				t.Error("something is written behind a block's end")
			}
		}
		holds(t, img)
	}
}
