package plan

import (
	"bytes"
	"math"
	"slices"
	"strings"
	"testing"

	"selvedge/api"
	"selvedge/image"
	"selvedge/layout"
	"selvedge/tree"
)

// made is a new image.
func made(t *testing.T, blocks int) [][]byte {
	t.Helper()
	img, e := image.Make(blocks)
	if e != api.OK {
		t.Fatal("Make", blocks, e)
	}
	return img
}

// mark sets the bits of a block.
func mark(img [][]byte, block int, l ...int) {
	for _, i := range l {
		img[block][i/8] |= 1 << (i % 8)
	}
}

// put writes an inode, and sets its bit and those of its blocks.
func put(img [][]byte, ino int, n api.Inode) {
	b, e := layout.Inode(n)
	if e != api.OK {
		panic("no such inode")
	}
	copy(img[3+ino/2][ino%2*16:], b)
	if n.Kind != api.Free {
		mark(img, 1, ino)
		mark(img, 2, n.Blocks...)
	}
}

func file(links, size int, blocks ...int) api.Inode {
	return api.Inode{Kind: api.File, Links: links, Size: size, Blocks: blocks}
}

func dir(blocks ...int) api.Inode {
	return api.Inode{Kind: api.Dir, Links: 1, Blocks: blocks}
}

// enter writes an entry at a place of a block.
func enter(img [][]byte, block, at int, name string, ino int) {
	b := make([]byte, 8)
	b[0] = byte(ino)
	copy(b[1:], name)
	copy(img[block][at*8:], b)
}

// some is an image with a tree, and with defects: /, /a (inode 2, two links and one too many), /d (3), /d/b (2), /d/full (4: four entries k0 to k3 of inode 5), /e (6, one link, with blocks in three bytes), /x (7, a directory with two empty blocks), /z (8, no bytes).
func some(t *testing.T) [][]byte {
	t.Helper()
	img := made(t, 48)
	put(img, 1, dir(12, 11))
	put(img, 2, file(3, 40, 14, 13))
	put(img, 3, dir(15))
	put(img, 4, dir(16))
	put(img, 5, file(4, 1, 24))
	put(img, 6, file(1, 200, 17, 40, 18, 25, 41, 26, 19))
	put(img, 7, dir(20, 33))
	put(img, 8, file(1, 0))
	mark(img, 1, 9)
	mark(img, 2, 21, 23)
	enter(img, 12, 0, "d", 3)
	enter(img, 12, 2, "a", 2)
	enter(img, 12, 1, "x", 7)
	enter(img, 12, 3, "z", 8)
	enter(img, 11, 3, "e", 6)
	enter(img, 15, 2, "b", 2)
	enter(img, 15, 0, "full", 4)
	for at := range 4 {
		enter(img, 16, at, "k"+string(rune('0'+at)), 5)
	}
	copy(img[14], strings.Repeat("f", 32))
	copy(img[13], "fourteen, and bytes behind")
	copy(img[24], "k")
	if !image.Safe(img) {
		t.Fatal("not safe")
	}
	return img
}

// item is one, by its patch's bytes.
func item(block, off int, data string, deps ...int) api.Item {
	return api.Item{Patch: api.Patch{Block: block, Off: off, Data: data}, Deps: deps}
}

// zeros are so many bytes 0.
func zeros(many int) string { return strings.Repeat("\x00", many) }

// filled is a text, and 0 up to so many bytes.
func filled(s string, many int) string { return s + zeros(many-len(s)) }

func same(a, b []api.Item) bool {
	return slices.EqualFunc(a, b, func(a, b api.Item) bool { return a.Patch == b.Patch && slices.Equal(a.Deps, b.Deps) })
}

func sameImage(a, b [][]byte) bool { return slices.EqualFunc(a, b, bytes.Equal) }

// plans fails the test unless the plan of an operation is that.
func plans(t *testing.T, img [][]byte, o api.Op, want ...api.Item) {
	t.Helper()
	l, e := Plan(img, o)
	if e != api.OK || !same(l, want) {
		t.Error(o, e, l, "not", want)
	}
	holds(t, img, o)
}

// noRoomFor fails the test unless an operation that the tree allows has ErrSpace.
func noRoomFor(t *testing.T, img [][]byte, l ...api.Op) {
	t.Helper()
	is, e := image.Tree(img)
	if e != api.OK {
		t.Fatal("no tree")
	}
	for _, o := range l {
		if _, e := tree.Apply(is, o); e != api.OK {
			t.Error(o, "is not allowed", e)
		}
		refuses(t, img, o, api.ErrSpace)
	}
}

// refuses fails the test unless all that is asked of an operation has that error, and nothing beside.
func refuses(t *testing.T, img [][]byte, o api.Op, want api.Errno) {
	t.Helper()
	if l, e := Plan(img, o); e != want || len(l) != 0 {
		t.Error("Plan", o, l, e, "not", want)
	}
	if l, e := Do(img, o); e != want || len(l) != 0 {
		t.Error("Do", o, e, "not", want)
	}
	if l, e := Steps(img, o); e != want || len(l) != 0 {
		t.Error("Steps", o, e, "not", want)
	}
	for _, set := range [][]int{nil, {}, {0}, {5000}, {-1}} {
		if l, e := Some(img, o, set); e != want || len(l) != 0 {
			t.Error("Some", o, set, e, "not", want)
		}
	}
}

// P12.1: example 1, byte by byte.
func TestExample(t *testing.T) {
	plans(t, made(t, 16), api.Op{Kind: api.Create, Path: "/a"},
		item(1, 0, "\x07"),
		item(4, 0, filled("\x01\x01", 16), 0),
		item(2, 1, "\x0f"),
		item(11, 0, zeros(32), 2),
		item(3, 18, filled("\x00\x00\x00\x00\x00\x00\x0b", 14), 2, 3),
		item(11, 0, filled("\x02a", 8), 1, 3))
}

// P12.1
func TestPlanOfCreateAndMkdir(t *testing.T) {
	img := some(t)
	plans(t, img, api.Op{Kind: api.Create, Path: "/n"}, item(1, 1, "\x07"), item(8, 0, filled("\x01\x01", 16), 0), item(11, 0, filled("\x0an", 8), 1))
	plans(t, img, api.Op{Kind: api.Mkdir, Path: "/n"}, item(1, 1, "\x07"), item(8, 0, filled("\x02\x01", 16), 0), item(11, 0, filled("\x0an", 8), 1))
	plans(t, img, api.Op{Kind: api.Create, Path: "/d/long-na"}, item(1, 1, "\x07"), item(8, 0, filled("\x01\x01", 16), 0), item(15, 8, "\x0along-na", 1))
	plans(t, img, api.Op{Kind: api.Mkdir, Path: "/x/n"}, item(1, 1, "\x07"), item(8, 0, filled("\x02\x01", 16), 0), item(20, 0, filled("\x0an", 8), 1))
	plans(t, img, api.Op{Kind: api.Create, Path: "/d/full/n"},
		item(1, 1, "\x07"), item(8, 0, filled("\x01\x01", 16), 0), item(2, 2, "\xff"), item(22, 0, zeros(32), 2), item(5, 2, filled("\x00\x00\x00\x00\x00\x00\x10\x16", 14), 2, 3), item(22, 0, filled("\x0an", 8), 1, 3))
	mark(img, 1, 10, 11, 12, 13, 14)
	plans(t, img, api.Op{Kind: api.Mkdir, Path: "/n"}, item(1, 1, "\xff"), item(10, 16, filled("\x02\x01", 16), 0), item(11, 0, filled("\x0fn", 8), 1))
}

// P12.1
func TestPlanOfLink(t *testing.T) {
	img := some(t)
	plans(t, img, api.Op{Kind: api.Link, Path: "/a", Other: "/n"}, item(4, 1, "\x04"), item(11, 0, filled("\x02n", 8), 0))
	plans(t, img, api.Op{Kind: api.Link, Path: "/z", Other: "/x/n"}, item(7, 1, "\x02"), item(20, 0, filled("\x08n", 8), 0))
	plans(t, img, api.Op{Kind: api.Link, Path: "/d/full/k0", Other: "/d/full/k4"},
		item(5, 17, "\x05"), item(2, 2, "\xff"), item(22, 0, zeros(32), 1), item(5, 2, filled("\x00\x00\x00\x00\x00\x00\x10\x16", 14), 1, 2), item(22, 0, filled("\x05k4", 8), 0, 2))
	put(img, 2, file(254, 40, 14, 13))
	plans(t, img, api.Op{Kind: api.Link, Path: "/d/b", Other: "/n"}, item(4, 1, "\xff"), item(11, 0, filled("\x02n", 8), 0))
	put(img, 2, file(255, 40, 14, 13))
	noRoomFor(t, img, api.Op{Kind: api.Link, Path: "/d/b", Other: "/n"}, api.Op{Kind: api.Rename, Path: "/a", Other: "/n"})
	plans(t, img, api.Op{Kind: api.Unlink, Path: "/a"}, item(12, 16, zeros(8)), item(4, 1, "\xfe", 0))
}

// P12.1
func TestPlanOfRename(t *testing.T) {
	img := some(t)
	plans(t, img, api.Op{Kind: api.Rename, Path: "/a", Other: "/n"}, item(4, 1, "\x04"), item(11, 0, filled("\x02n", 8), 0), item(12, 16, zeros(8), 1), item(4, 1, "\x03", 0, 1, 2))
	plans(t, img, api.Op{Kind: api.Rename, Path: "/d/b", Other: "/x/b"}, item(4, 1, "\x04"), item(20, 0, filled("\x02b", 8), 0), item(15, 16, zeros(8), 1), item(4, 1, "\x03", 0, 1, 2))
	// The place is looked for while the old entry stands.
	plans(t, img, api.Op{Kind: api.Rename, Path: "/d/full/k2", Other: "/d/full/n"},
		item(5, 17, "\x05"), item(2, 2, "\xff"), item(22, 0, zeros(32), 1), item(5, 2, filled("\x00\x00\x00\x00\x00\x00\x10\x16", 14), 1, 2), item(22, 0, filled("\x05n", 8), 0, 2),
		item(16, 16, zeros(8), 4), item(5, 17, "\x04", 0, 4, 5))
}

// P12.2
func TestPlanOfUnlinkAndRmdir(t *testing.T) {
	img := some(t)
	plans(t, img, api.Op{Kind: api.Unlink, Path: "/a"}, item(12, 16, zeros(8)), item(4, 1, "\x02", 0))
	plans(t, img, api.Op{Kind: api.Unlink, Path: "/d/full/k3"}, item(16, 24, zeros(8)), item(5, 17, "\x03", 0))
	plans(t, img, api.Op{Kind: api.Unlink, Path: "/z"}, item(12, 24, zeros(8)), item(7, 0, zeros(16), 0), item(1, 1, "\x02", 1))
	// The blocks of /e, 17 to 19, 25 and 26, 40 and 41, have bits in three bytes: bytes 2, 3 and 5. Of byte 4 nothing changes.
	plans(t, img, api.Op{Kind: api.Unlink, Path: "/e"},
		item(11, 24, zeros(8)), item(6, 0, zeros(16), 0), item(2, 2, "\xb1", 1), item(2, 3, "\x01", 1), item(2, 5, "\x00", 1), item(1, 0, "\xbf", 1))
	plans(t, img, api.Op{Kind: api.Rmdir, Path: "/x"}, item(12, 8, zeros(8)), item(6, 16, zeros(16), 0), item(2, 2, "\xaf", 1), item(2, 4, "\x00", 1), item(1, 0, "\x7f", 1))
	next, e := Do(made(t, 16), api.Op{Kind: api.Mkdir, Path: "/a"})
	if e != api.OK {
		t.Fatal(e)
	}
	plans(t, next, api.Op{Kind: api.Rmdir, Path: "/a"}, item(11, 0, zeros(8)), item(4, 0, zeros(16), 0), item(1, 0, "\x03", 1))
}

// P12.2
func TestPlanOfWrite(t *testing.T) {
	const text = "0123456789ABCDEFGHIJKLMNOPQRSTUVWXYZabcdefghijklmnopqrstuvwxyz-+" // MaxWrite bytes
	img := some(t)
	write := func(path string, off int, data string, want ...api.Item) {
		t.Helper()
		plans(t, img, api.Op{Kind: api.Write, Path: path, Off: off, Data: data}, want...)
	}
	write("/a", 0, "x", item(14, 0, "x"))
	write("/a", 0, "f", item(14, 0, "f"))
	write("/d/b", 31, "xy", item(14, 31, "x"), item(13, 0, "y"))
	write("/a", 0, text[:40], item(14, 0, text[:32]), item(13, 0, text[32:40]))
	write("/a", 39, "x", item(13, 7, "x"))
	write("/a", 40, "x", item(13, 8, "x"), item(4, 2, filled("\x29\x00\x00\x00\x00\x00\x0e\x0d", 14), 0))
	write("/a", 0, text, item(14, 0, text[:32]), item(13, 0, text[32:]), item(4, 2, filled("\x40\x00\x00\x00\x00\x00\x0e\x0d", 14), 0, 1))
	write("/a", 1, text, item(14, 1, text[:31]), item(13, 0, text[31:63]), item(2, 2, "\xff"), item(22, 0, filled(text[63:], 32), 2), item(4, 2, filled("\x41\x00\x00\x00\x00\x00\x0e\x0d\x16", 14), 0, 1, 2, 3))
	write("/a", 32, text, item(13, 0, text[:32]), item(2, 2, "\xff"), item(22, 0, text[32:], 1), item(4, 2, filled("\x60\x00\x00\x00\x00\x00\x0e\x0d\x16", 14), 0, 1, 2))
	// The bits of blocks 22 and 27 stand in two bytes, those of 27 and 28 in one.
	write("/a", 40, text, item(13, 8, text[:24]), item(2, 2, "\xff"), item(22, 0, text[24:56], 1), item(2, 3, "\x0f"), item(27, 0, filled(text[56:], 32), 3), item(4, 2, filled("\x68\x00\x00\x00\x00\x00\x0e\x0d\x16\x1b", 14), 0, 1, 2, 3, 4))
	mark(img, 2, 22)
	write("/z", 0, text, item(2, 3, "\x0f"), item(27, 0, text[:32], 0), item(2, 3, "\x1f", 0), item(28, 0, text[32:], 2), item(7, 2, filled("\x40\x00\x00\x00\x00\x00\x1b\x1c", 14), 0, 1, 2, 3))
	write("/z", 0, "x", item(2, 3, "\x0f"), item(27, 0, filled("x", 32), 0), item(7, 2, filled("\x01\x00\x00\x00\x00\x00\x1b", 14), 0, 1))
	write("/e", 192, text, item(19, 0, text[:32]), item(2, 3, "\x0f"), item(27, 0, text[32:], 1), item(6, 2, "\x00\x01\x00\x00\x00\x00\x11\x28\x12\x19\x29\x1a\x13\x1b", 0, 1, 2))
	write("/e", 136, text, item(41, 8, text[:24]), item(26, 0, text[24:56]), item(19, 0, text[56:]))
}

// P12.2
func TestPlanOfTruncate(t *testing.T) {
	img := some(t)
	plans(t, img, api.Op{Kind: api.Truncate, Path: "/z"})
	plans(t, img, api.Op{Kind: api.Truncate, Path: "/d/b"}, item(4, 2, zeros(14)), item(2, 1, "\x9f", 0))
	plans(t, img, api.Op{Kind: api.Truncate, Path: "/e"}, item(6, 2, zeros(14)), item(2, 2, "\xb1", 0), item(2, 3, "\x01", 0), item(2, 5, "\x00", 0))
	if l, e := Do(img, api.Op{Kind: api.Truncate, Path: "/z"}); e != api.OK || !sameImage(l, img) {
		t.Error(e)
	}
	if l, e := Steps(img, api.Op{Kind: api.Truncate, Path: "/z"}); e != api.OK || len(l) != 0 {
		t.Error(e)
	}
}

// all marks all bits of blocks from one on.
func all(img [][]byte, from int) {
	for i := from; i < len(img); i++ {
		mark(img, 2, i)
	}
}

// P12.1, P12.2: each thing that there may be no room of.
func TestNoRoom(t *testing.T) {
	inodes := some(t)
	mark(inodes, 1, 10, 11, 12, 13, 14, 15)
	noRoomFor(t, inodes, api.Op{Kind: api.Create, Path: "/n"}, api.Op{Kind: api.Mkdir, Path: "/x/n"}, api.Op{Kind: api.Create, Path: "/d/full/n"})
	plans(t, inodes, api.Op{Kind: api.Link, Path: "/z", Other: "/n"}, item(7, 1, "\x02"), item(11, 0, filled("\x08n", 8), 0))

	blocks := some(t)
	all(blocks, 11)
	noRoomFor(t, blocks, api.Op{Kind: api.Create, Path: "/d/full/n"}, api.Op{Kind: api.Mkdir, Path: "/d/full/n"}, api.Op{Kind: api.Link, Path: "/z", Other: "/d/full/n"}, api.Op{Kind: api.Rename, Path: "/z", Other: "/d/full/n"},
		api.Op{Kind: api.Rename, Path: "/d/full/k0", Other: "/d/full/n"}, api.Op{Kind: api.Write, Path: "/z", Data: "x"}, api.Op{Kind: api.Write, Path: "/a", Off: 1, Data: strings.Repeat("x", 64)})
	plans(t, blocks, api.Op{Kind: api.Create, Path: "/n"}, item(1, 1, "\x07"), item(8, 0, filled("\x01\x01", 16), 0), item(11, 0, filled("\x0an", 8), 1))
	plans(t, blocks, api.Op{Kind: api.Write, Path: "/a", Off: 40, Data: "x"}, item(13, 8, "x"), item(4, 2, filled("\x29\x00\x00\x00\x00\x00\x0e\x0d", 14), 0))

	// One block is free, and two are needed.
	one := some(t)
	all(one, 11)
	one[2][5] &^= 1 << 7
	noRoomFor(t, one, api.Op{Kind: api.Write, Path: "/z", Data: strings.Repeat("x", 33)}, api.Op{Kind: api.Write, Path: "/a", Off: 40, Data: strings.Repeat("x", 57)})
	plans(t, one, api.Op{Kind: api.Write, Path: "/z", Data: "x"}, item(2, 5, "\xff"), item(47, 0, filled("x", 32), 0), item(7, 2, filled("\x01\x00\x00\x00\x00\x00\x2f", 14), 0, 1))

	eight := made(t, 96)
	put(eight, 1, dir(11, 12, 13, 14, 15, 16, 17, 18))
	for i := range 32 {
		enter(eight, 11+i/4, i%4, "f"+string(rune('a'+i/26))+string(rune('a'+i%26)), 2)
	}
	put(eight, 2, file(33, 0))
	noRoomFor(t, eight, api.Op{Kind: api.Create, Path: "/n"}, api.Op{Kind: api.Mkdir, Path: "/n"}, api.Op{Kind: api.Link, Path: "/faa", Other: "/n"}, api.Op{Kind: api.Rename, Path: "/faa", Other: "/n"})
	enter(eight, 18, 3, "", 0)
	plans(t, eight, api.Op{Kind: api.Link, Path: "/faa", Other: "/n"}, item(4, 1, "\x22"), item(18, 24, filled("\x02n", 8), 0))
	put(eight, 1, dir(11, 12, 13, 14, 15, 16, 17))
	plans(t, eight, api.Op{Kind: api.Link, Path: "/faa", Other: "/n"},
		item(4, 1, "\x22"), item(2, 2, "\x0f"), item(19, 0, zeros(32), 1), item(3, 18, "\x00\x00\x00\x00\x00\x00\x0b\x0c\x0d\x0e\x0f\x10\x11\x13", 1, 2), item(19, 0, filled("\x02n", 8), 0, 2))
}

// broken are images that are not safe.
func broken(t *testing.T) [][][]byte {
	unmarked, twice, short, root := some(t), some(t), some(t), some(t)
	unmarked[2][5] = 0
	enter(twice, 15, 3, "up", 3)
	short[40] = short[40][:31]
	root[3][16] = 0
	return [][][]byte{nil, {}, {nil}, {make([]byte, 32)}, make([][]byte, 48), some(t)[:47], append(some(t), make([]byte, 32)), unmarked, twice, short, root}
}

// P12.1, P12.3: ErrForm of what is not safe, and of what is not right, whatever else is wrong.
func TestForm(t *testing.T) {
	for _, img := range broken(t) {
		for _, o := range []api.Op{{}, {Kind: api.Create, Path: "/n"}, {Kind: api.Unlink, Path: "/nope"}, {Kind: api.Truncate, Path: "/z"}, {Kind: api.Write, Path: "/d", Off: 256, Data: "x"}} {
			refuses(t, img, o, api.ErrForm)
		}
		if blocks, inodes, e := Free(img); e != api.ErrForm || blocks != 0 || inodes != 0 {
			t.Error(blocks, inodes, e)
		}
	}
	for _, o := range []api.Op{
		{}, {Path: "/n"}, {Kind: 9, Path: "/n"}, {Kind: 255, Path: "/n"}, {Kind: api.Create}, {Kind: api.Create, Path: "/"}, {Kind: api.Mkdir, Path: "n"}, {Kind: api.Create, Path: "/n", Other: "/m"}, {Kind: api.Create, Path: "/n", Off: 1}, {Kind: api.Create, Path: "/n", Data: "x"},
		{Kind: api.Unlink, Path: "/"}, {Kind: api.Rmdir, Path: "/"}, {Kind: api.Link, Path: "/a"}, {Kind: api.Link, Path: "/a", Other: "/"}, {Kind: api.Rename, Path: "/a", Other: "/N"}, {Kind: api.Rename, Path: "/a", Other: "/a/b/c/d/e"}, {Kind: api.Write, Path: "/a"},
		{Kind: api.Write, Path: "/a", Off: -1, Data: "x"}, {Kind: api.Write, Path: "/a", Off: 257, Data: "x"}, {Kind: api.Write, Path: "/a", Off: math.MaxInt, Data: "x"}, {Kind: api.Write, Path: "/a", Off: math.MinInt, Data: "x"}, {Kind: api.Write, Path: "/a", Data: strings.Repeat("x", 65)},
		{Kind: api.Truncate, Path: strings.Repeat("/", 100000)}, {Kind: api.Truncate, Path: "/\xff"},
	} {
		refuses(t, some(t), o, api.ErrForm)
	}
}

// P12.1: what the tree says comes ahead of what there is no room of.
func TestTreeErrors(t *testing.T) {
	img := some(t)
	mark(img, 1, 10, 11, 12, 13, 14, 15)
	all(img, 11)
	put(img, 2, file(255, 40, 14, 13))
	for o, want := range map[api.Op]api.Errno{
		{Kind: api.Create, Path: "/a"}: api.ErrExist, {Kind: api.Mkdir, Path: "/x"}: api.ErrExist, {Kind: api.Create, Path: "/a/n"}: api.ErrNotdir, {Kind: api.Mkdir, Path: "/nope/n"}: api.ErrNoent,
		{Kind: api.Link, Path: "/nope", Other: "/n"}: api.ErrNoent, {Kind: api.Link, Path: "/d", Other: "/n"}: api.ErrIsdir, {Kind: api.Link, Path: "/a", Other: "/d/full"}: api.ErrExist, {Kind: api.Link, Path: "/a", Other: "/a/b"}: api.ErrNotdir,
		{Kind: api.Rename, Path: "/nope", Other: "/n"}: api.ErrNoent, {Kind: api.Rename, Path: "/x", Other: "/n"}: api.ErrIsdir, {Kind: api.Rename, Path: "/a", Other: "/a"}: api.ErrExist, {Kind: api.Rename, Path: "/a", Other: "/nope/n"}: api.ErrNoent,
		{Kind: api.Unlink, Path: "/nope"}: api.ErrNoent, {Kind: api.Unlink, Path: "/d"}: api.ErrIsdir, {Kind: api.Unlink, Path: "/a/b"}: api.ErrNotdir, {Kind: api.Rmdir, Path: "/a"}: api.ErrNotdir, {Kind: api.Rmdir, Path: "/d"}: api.ErrNotempty, {Kind: api.Rmdir, Path: "/d/full"}: api.ErrNotempty,
		{Kind: api.Write, Path: "/nope", Data: "x"}: api.ErrNoent, {Kind: api.Write, Path: "/d", Data: "x"}: api.ErrIsdir, {Kind: api.Write, Path: "/z", Off: 1, Data: "x"}: api.ErrRange, {Kind: api.Write, Path: "/e", Off: 193, Data: strings.Repeat("x", 64)}: api.ErrRange,
		{Kind: api.Truncate, Path: "/nope"}: api.ErrNoent, {Kind: api.Truncate, Path: "/x"}: api.ErrIsdir, {Kind: api.Create, Path: "/n"}: api.ErrSpace,
	} {
		refuses(t, img, o, want)
	}
}

// P12.3
func TestFree(t *testing.T) {
	for blocks := api.MinBlocks; blocks <= api.MaxBlocks; blocks++ {
		if b, i, e := Free(made(t, blocks)); b != blocks-11 || i != 14 || e != api.OK {
			t.Error(blocks, b, i, e)
		}
	}
	// Of the 37 blocks of data 16 are of inodes, and 2 are lost; of the inodes 2 to 15 there are 7, and 1 is lost.
	img := some(t)
	if b, i, e := Free(img); b != 19 || i != 6 || e != api.OK {
		t.Error(b, i, e)
	}
	all(img, 11)
	mark(img, 1, 10, 11, 12, 13, 14, 15)
	if b, i, e := Free(img); b != 0 || i != 0 || e != api.OK {
		t.Error(b, i, e)
	}
}

// P12.3
func TestSome(t *testing.T) {
	img, o := made(t, 16), api.Op{Kind: api.Create, Path: "/a"}
	l, _ := Plan(img, o)
	for _, set := range [][]int{{1}, {3}, {4}, {5}, {2, 4}, {3, 2, 4, 1, 5}, {0, 1, 5}, {0, 2, 3, 5}, {6}, {0, 6}, {-1}, {0, -1}, {math.MaxInt}, {math.MinInt}} {
		if got, e := Some(img, o, set); e != api.ErrForm || len(got) != 0 {
			t.Error(set, e)
		}
	}
	for _, set := range [][]int{nil, {}, {0}, {2}, {1, 0}, {0, 0, 2, 0}, {3, 2}, {4, 3, 2}, {5, 3, 2, 1, 0}, {5, 4, 3, 2, 1, 0, 5, 4}} {
		want := made(t, 16)
		for i, item := range l { // in the plan's order, each once
			if slices.Contains(set, i) {
				copy(want[item.Patch.Block][item.Patch.Off:], item.Patch.Data)
			}
		}
		was := slices.Clone(set)
		if got, e := Some(img, o, set); e != api.OK || !sameImage(got, want) || !slices.Equal(was, set) {
			t.Error(set, e)
		}
	}
}

// P12.4: a row of operations, each told by its tree.
func TestRow(t *testing.T) {
	img, is := made(t, 32), tree.New()
	for _, o := range []api.Op{
		{Kind: api.Mkdir, Path: "/m"}, {Kind: api.Create, Path: "/m/f"}, {Kind: api.Write, Path: "/m/f", Data: strings.Repeat("x", 64)}, {Kind: api.Link, Path: "/m/f", Other: "/g"}, {Kind: api.Write, Path: "/g", Off: 60, Data: "more"},
		{Kind: api.Rename, Path: "/m/f", Other: "/a"}, {Kind: api.Rmdir, Path: "/m"}, {Kind: api.Truncate, Path: "/a"}, {Kind: api.Write, Path: "/a", Data: "again"}, {Kind: api.Unlink, Path: "/g"}, {Kind: api.Unlink, Path: "/a"},
	} {
		holds(t, img, o)
		next, e := Do(img, o)
		want, r := tree.Apply(is, o)
		if e != api.OK || r != api.OK || !image.Clean(next) {
			t.Fatal(o, e, r)
		}
		img, is = next, want
		if got, _ := image.Tree(img); !tree.Same(got, is) {
			t.Fatal(o, got, is)
		}
	}
	if b, i, e := Free(img); b != 20 || i != 14 || e != api.OK {
		t.Error("something but the root's block is not free again", b, i, e)
	}
}

// P3 of the rules, E7: what is handed in stays as it is, what is answered is the caller's.
func TestNothingChanges(t *testing.T) {
	for _, o := range []api.Op{
		{Kind: api.Create, Path: "/d/full/n"}, {Kind: api.Link, Path: "/a", Other: "/n"}, {Kind: api.Rename, Path: "/a", Other: "/d/full/n"}, {Kind: api.Unlink, Path: "/e"}, {Kind: api.Rmdir, Path: "/x"},
		{Kind: api.Write, Path: "/a", Off: 40, Data: strings.Repeat("x", 64)}, {Kind: api.Truncate, Path: "/e"}, {Kind: api.Truncate, Path: "/z"}, {Kind: api.Create, Path: "/a"}, {},
	} {
		was, img := some(t), some(t)
		for i, b := range img {
			img[i] = append(b, "spare room"...)[:32]
		}
		img = append(img, []byte("spare room"))[:48]
		l, _ := Plan(img, o)
		kept := slices.Clone(l)
		one, _ := Do(img, o)
		steps, _ := Steps(img, o)
		other, _ := Some(img, o, nil)
		Free(img)
		for _, answer := range append(steps, one, other) {
			for _, b := range answer {
				clear(b[:cap(b)])
			}
			clear(answer[:cap(answer)])
		}
		for i := range l {
			clear(l[i].Deps[:cap(l[i].Deps)])
		}
		clear(l[:cap(l)])
		if !sameImage(img, was) || string(img[:49][48]) != "spare room" {
			t.Error(o, "changed the image")
		}
		for _, b := range img {
			if string(b[:42][32:]) != "spare room" {
				t.Error(o, "wrote behind a block's end")
			}
		}
		for i, item := range kept {
			if again, _ := Plan(img, o); again[i].Patch != item.Patch {
				t.Error(o, "is told otherwise when asked again")
			}
		}
	}
}
