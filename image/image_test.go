package image

import (
	"bytes"
	"math"
	"slices"
	"strconv"
	"strings"
	"testing"

	"selvedge/api"
	"selvedge/layout"
)

// far are numbers that no inode has.
var far = []int{-1, -2, -16, math.MinInt, math.MaxInt, 16, 17, 256, 257, 1 << 16, 1 << 32, 1<<32 + 1}

// made is a new image.
func made(t *testing.T, blocks int) [][]byte {
	t.Helper()
	img, e := Make(blocks)
	if e != api.OK {
		t.Fatal("Make", blocks, e)
	}
	return img
}

// mark sets the bits of a block.
func mark(img [][]byte, block int, l ...int) {
	for _, i := range l {
		img[block][i/8] |= 1 << (i % 8)
	}
}

// unmark takes the bits of a block away.
func unmark(img [][]byte, block int, l ...int) {
	for _, i := range l {
		img[block][i/8] &^= 1 << (i % 8)
	}
}

// put writes an inode, and sets its bit and those of its blocks.
func put(img [][]byte, ino int, n api.Inode) {
	b, e := layout.Inode(n)
	if e != api.OK {
		panic("no such inode")
	}
	copy(img[3+ino/2][ino%2*16:], b)
	if n.Kind != api.Free {
		mark(img, 1, ino)
		mark(img, 2, n.Blocks...)
	}
}

// file is one with so many bytes.
func file(links, size int, blocks ...int) api.Inode {
	return api.Inode{Kind: api.File, Links: links, Size: size, Blocks: blocks}
}

func dir(blocks ...int) api.Inode {
	return api.Inode{Kind: api.Dir, Links: 1, Blocks: blocks}
}

// enter writes an entry at a place of a block.
func enter(img [][]byte, block, at int, name string, ino int) {
	b := make([]byte, 8)
	b[0] = byte(ino)
	copy(b[1:], name)
	copy(img[block][at*8:], b)
}

// sound is an image with a tree, without defects.
func sound(t *testing.T) [][]byte {
	t.Helper()
	img := made(t, 48)
	put(img, 1, dir(11, 20))
	put(img, 2, file(2, 40, 13, 12))
	put(img, 3, dir(14))
	put(img, 4, dir(15))
	put(img, 5, dir(16))
	put(img, 6, file(1, 5, 17))
	put(img, 7, file(1, 0))
	put(img, 10, dir())
	enter(img, 11, 0, "d", 3)
	enter(img, 11, 2, "a", 2)
	enter(img, 20, 1, "x", 10)
	enter(img, 20, 3, "a-b", 7)
	enter(img, 14, 0, "e", 4)
	enter(img, 14, 1, "b", 2)
	enter(img, 15, 3, "f", 5)
	enter(img, 16, 2, "g", 6)
	copy(img[13], strings.Repeat("3", 32))
	copy(img[12], "twelves!behind the end")
	copy(img[17], "fives")
	return img
}

// worn is the same tree, with all kinds of defects.
func worn(t *testing.T) [][]byte {
	t.Helper()
	img := sound(t)
	put(img, 2, file(5, 40, 13, 12))
	put(img, 7, file(255, 0))
	put(img, 8, dir(18, 47))
	enter(img, 18, 0, "a", 2)
	enter(img, 18, 1, "d", 3)
	copy(img[47], "no entries at all, and it does not matter")
	put(img, 11, file(4, 33, 21, 22))
	mark(img, 1, 9)
	mark(img, 2, 19, 46)
	return img
}

// copied is the same image, in bytes of its own, with spare room behind each block.
func copied(img [][]byte) [][]byte {
	other := make([][]byte, len(img), len(img)+1)
	for i, b := range img {
		other[i] = append(slices.Clone(b), "spare room"...)[:len(b)]
	}
	other[:len(img)+1][len(img)] = []byte("spare room")
	return other
}

// untouched: is a copied image as it was, with its spare room?
func untouched(img, was [][]byte) bool {
	for i, b := range img {
		if string(b[:len(b)+10][len(b):]) != "spare room" {
			return false
		}
		if !bytes.Equal(b, was[i]) {
			return false
		}
	}
	return len(img) == len(was) && string(img[:len(img)+1][len(img)]) == "spare room"
}

// unformed are images that are not formed, by what is wrong with them.
func unformed(t *testing.T) map[string][][]byte {
	l := map[string][][]byte{"nil": nil, "no blocks": {}, "a block alone": {sound(t)[0]}, "nil blocks": make([][]byte, 48), "no number": slices.Repeat([][]byte{make([]byte, 32)}, 48)}
	add := func(name string, change func(img [][]byte)) {
		img := sound(t)
		change(img)
		l[name] = img
	}
	l["a block less"] = sound(t)[:47]
	l["a block more"] = append(sound(t), make([]byte, 32))
	l["far too many"] = append(sound(t), make([][]byte, 5000)...)
	add("another number", func(img [][]byte) { img[0][2] = 47 })
	add("no mark", func(img [][]byte) { img[0][1] = 0 })
	add("more in the first block", func(img [][]byte) { img[0][31] = 1 })
	for _, i := range []int{0, 1, 2, 3, 10, 11, 30, 47} {
		add("a short block "+strconv.Itoa(i), func(img [][]byte) { img[i] = img[i][:31] })
		add("a long block "+strconv.Itoa(i), func(img [][]byte) { img[i] = append(img[i], 0) })
		add("a nil block "+strconv.Itoa(i), func(img [][]byte) { img[i] = nil })
	}
	add("inode 0 free", func(img [][]byte) { unmark(img, 1, 0) })
	add("inode 1 free", func(img [][]byte) { unmark(img, 1, 1) })
	for _, i := range []int{16, 17, 23, 24, 255} {
		add("a bit of no inode "+strconv.Itoa(i), func(img [][]byte) { mark(img, 1, i) })
	}
	for i := range 11 {
		add("a first block free "+strconv.Itoa(i), func(img [][]byte) { unmark(img, 2, i) })
	}
	for _, i := range []int{48, 49, 95, 96, 255} {
		add("a bit of no block "+strconv.Itoa(i), func(img [][]byte) { mark(img, 2, i) })
	}
	add("inode 0 a file", func(img [][]byte) { put(img, 0, file(1, 0)) })
	add("inode 0 a directory", func(img [][]byte) { put(img, 0, dir()) })
	add("the root free", func(img [][]byte) { put(img, 1, api.Inode{}) })
	add("the root a file", func(img [][]byte) { put(img, 1, file(1, 0)) })
	add("an inode that is none", func(img [][]byte) { img[10][31] = 1 })
	add("an inode of no kind", func(img [][]byte) { img[10][16] = 3 })
	add("a file's block that is not there", func(img [][]byte) { put(img, 9, file(1, 1, 48)); unmark(img, 2, 48) })
	add("a directory's", func(img [][]byte) { put(img, 9, dir(11, 95)); unmark(img, 2, 95) })
	add("the root's", func(img [][]byte) { put(img, 1, dir(95)); unmark(img, 2, 95) })
	return l
}

// asked is all that is told of an image, each answer's error beside it.
type asked struct {
	errors  []api.Errno
	numbers []int
	texts   []string
	yes     [2]bool
}

// paths are texts, of which some are paths.
var paths = []string{"/", "/a", "/a-b", "/d", "/d/b", "/d/e", "/d/e/f", "/d/e/f/g", "/x", "/x/y", "/nope", "/d/nope", "/nope/a", "/a/b", "/a/b/c/d", "/d/b/c", "/d/e/f/g/h", "", "a", "//", "/a/", "/A", "/.", "/abcdefgh", "/d//e"}

// allOf asks all that can be asked.
func allOf(img [][]byte) asked {
	var a asked
	note := func(e api.Errno, numbers []int, texts ...string) {
		a.errors = append(a.errors, e)
		a.numbers = append(append(a.numbers, len(numbers)), numbers...)
		a.texts = append(a.texts, texts...)
	}
	for _, ino := range append([]int{0, 1, 2, 3, 4, 5, 6, 7, 8, 9, 10, 11, 12, 13, 14, 15}, far...) {
		n, e := Inode(img, ino)
		note(e, append([]int{int(n.Kind), n.Links, n.Size}, n.Blocks...))
		l, e := Entries(img, ino)
		note(e, nil)
		for _, entry := range l {
			note(e, []int{entry.Ino}, entry.Name)
		}
		s, e := Data(img, ino)
		note(e, nil, s)
	}
	a.yes = [2]bool{Safe(img), Clean(img)}
	for _, call := range []func([][]byte) ([]int, []int, api.Errno){Used, Reached} {
		blocks, inodes, e := call(img)
		note(e, blocks)
		note(e, inodes)
	}
	defects, e := Defects(img)
	for _, d := range defects {
		note(e, []int{int(d.What), d.Number})
	}
	note(e, nil)
	tree, e := Tree(img)
	for _, n := range tree {
		note(e, []int{len(n.Path)}, n.Path, n.Data, n.First)
		note(api.Errno(map[bool]int{true: -1, false: -2}[n.Dir]), nil)
	}
	note(e, nil)
	for _, path := range paths {
		ino, e := Find(img, path)
		note(e, []int{ino})
	}
	return a
}

func (a asked) same(b asked) bool {
	return slices.Equal(a.errors, b.errors) && slices.Equal(a.numbers, b.numbers) && slices.Equal(a.texts, b.texts) && a.yes == b.yes
}

// P10.1, P10.3: a new image, byte by byte.
func TestMake(t *testing.T) {
	for blocks := api.MinBlocks; blocks <= api.MaxBlocks; blocks++ {
		img := made(t, blocks)
		want := make([][]byte, blocks)
		for i := range want {
			want[i] = make([]byte, 32)
		}
		copy(want[0], []byte{'S', 'T', byte(blocks), 16})
		want[1][0] = 3
		copy(want[2], []byte{255, 7})
		copy(want[3][16:], []byte{2, 1})
		if !slices.EqualFunc(img, want, bytes.Equal) {
			t.Error(blocks, img)
		}
		if !Safe(img) || !Clean(img) {
			t.Error(blocks, Safe(img), Clean(img))
		}
		if l, e := Tree(img); e != api.OK || len(l) != 1 || l[0] != (api.Node{Path: "/", Dir: true, First: "/"}) {
			t.Error(blocks, l, e)
		}
		if ino, e := Find(img, "/"); ino != 1 || e != api.OK {
			t.Error(blocks, ino, e)
		}
	}
	for _, blocks := range append([]int{0, 1, 11, 15, 97, 98}, far[:5]...) {
		if img, e := Make(blocks); len(img) != 0 || e != api.ErrRange {
			t.Error(blocks, img, e)
		}
	}
}

// P10.1: all answers have ErrForm, and nothing beside it, of what is not formed; whatever else is wrong.
func TestUnformed(t *testing.T) {
	for name, img := range unformed(t) {
		if Safe(img) || Clean(img) {
			t.Error(name, "is safe")
		}
		for _, ino := range append([]int{0, 1, 2, 3, 15}, far...) {
			if n, e := Inode(img, ino); e != api.ErrForm || !layout.Same(n, api.Inode{}) {
				t.Error(name, ino, n, e)
			}
			if l, e := Entries(img, ino); e != api.ErrForm || len(l) != 0 {
				t.Error(name, ino, l, e)
			}
			if s, e := Data(img, ino); e != api.ErrForm || s != "" {
				t.Error(name, ino, s, e)
			}
		}
		if blocks, inodes, e := Used(img); e != api.ErrForm || len(blocks)+len(inodes) != 0 {
			t.Error(name, blocks, inodes, e)
		}
		refuses(t, name, img)
	}
}

// refuses fails the test unless all that is promised of safe images alone is refused.
func refuses(t *testing.T, name string, img [][]byte) {
	t.Helper()
	if Safe(img) || Clean(img) {
		t.Error(name, "is safe")
	}
	if blocks, inodes, e := Reached(img); e != api.ErrForm || len(blocks)+len(inodes) != 0 {
		t.Error(name, blocks, inodes, e)
	}
	if l, e := Defects(img); e != api.ErrForm || len(l) != 0 {
		t.Error(name, l, e)
	}
	if l, e := Tree(img); e != api.ErrForm || len(l) != 0 {
		t.Error(name, l, e)
	}
	for _, path := range paths {
		if ino, e := Find(img, path); e != api.ErrForm || ino != 0 {
			t.Error(name, path, ino, e)
		}
	}
}

// P10.1: each thing that a formed image may have wrong, one at a time. What it says of single inodes is told still.
func TestUnsafe(t *testing.T) {
	for name, change := range map[string]func(img [][]byte){
		"a file's bit":                     func(img [][]byte) { unmark(img, 1, 2) },
		"a directory's bit":                func(img [][]byte) { unmark(img, 1, 5) },
		"the bit of one that is lost":      func(img [][]byte) { unmark(img, 1, 11) },
		"a file's block":                   func(img [][]byte) { unmark(img, 2, 12) },
		"a directory's block":              func(img [][]byte) { unmark(img, 2, 16) },
		"the root's second block":          func(img [][]byte) { unmark(img, 2, 20) },
		"a block of one that is lost":      func(img [][]byte) { unmark(img, 2, 22) },
		"a block of two files":             func(img [][]byte) { put(img, 7, file(1, 1, 17)) },
		"a block of a file and the root":   func(img [][]byte) { put(img, 6, file(1, 5, 20)) },
		"a block of two that are lost":     func(img [][]byte) { put(img, 12, file(1, 5, 22)) },
		"a block of one that is lost too":  func(img [][]byte) { put(img, 12, dir(13)) },
		"an entry without a name":          func(img [][]byte) { enter(img, 11, 1, "", 7) },
		"an entry of no inode":             func(img [][]byte) { enter(img, 11, 1, "q", 0) },
		"an entry of too great a one":      func(img [][]byte) { enter(img, 11, 1, "q", 16) },
		"an entry with a wrong name":       func(img [][]byte) { enter(img, 16, 1, "Q", 7) },
		"an entry with a dot":              func(img [][]byte) { enter(img, 16, 1, "a.b", 7) },
		"an entry with a hole":             func(img [][]byte) { enter(img, 20, 0, "a\x00b", 7) },
		"an entry that is bytes alone":     func(img [][]byte) { img[20][7] = 1 },
		"two names alike":                  func(img [][]byte) { enter(img, 14, 2, "b", 7) },
		"two names alike, of one file":     func(img [][]byte) { enter(img, 14, 2, "b", 2) },
		"two names alike in two blocks":    func(img [][]byte) { enter(img, 20, 0, "a", 7) },
		"two names alike, one a directory": func(img [][]byte) { enter(img, 11, 1, "d", 7) },
		"an entry that leads to none":      func(img [][]byte) { enter(img, 16, 1, "q", 12) },
		"to one with a bit that is free":   func(img [][]byte) { enter(img, 16, 1, "q", 9) },
		"two entries to a directory":       func(img [][]byte) { enter(img, 11, 1, "q", 10) },
		"to one from below":                func(img [][]byte) { enter(img, 16, 1, "q", 3) },
		"two in one directory":             func(img [][]byte) { enter(img, 15, 1, "q", 5) },
		"one to itself":                    func(img [][]byte) { enter(img, 14, 2, "q", 3) },
		"one to the root":                  func(img [][]byte) { enter(img, 15, 0, "q", 1) },
		"one to the root from the root":    func(img [][]byte) { enter(img, 11, 1, "q", 1) },
		"too few links":                    func(img [][]byte) { put(img, 2, file(1, 40, 13, 12)) },
		"too many names":                   func(img [][]byte) { enter(img, 16, 0, "q", 6) },
		"too deep a file":                  func(img [][]byte) { put(img, 12, dir(30)); enter(img, 16, 0, "h", 12); enter(img, 30, 0, "i", 2) },
		"too deep a directory":             func(img [][]byte) { put(img, 12, dir(30)); enter(img, 16, 0, "h", 12); enter(img, 30, 3, "i", 8) },
		"too deep a directory without more": func(img [][]byte) {
			put(img, 12, dir(30))
			enter(img, 16, 0, "h", 12)
			enter(img, 30, 3, "i", 13)
			put(img, 13, dir())
		},
	} {
		img := worn(t)
		change(img)
		refuses(t, name, img)
		if n, e := Inode(img, 1); e != api.OK || !layout.Same(n, dir(11, 20)) {
			t.Error(name, n, e)
		}
		if _, _, e := Used(img); e != api.OK {
			t.Error(name, e)
		}
	}
}

// P10.1: what may be though it looks odd.
func TestSafeStill(t *testing.T) {
	for name, change := range map[string]func(img [][]byte){
		"nothing changed":                  func(img [][]byte) {},
		"a lost block more":                func(img [][]byte) { mark(img, 2, 11, 30, 31) },
		"a lost inode more":                func(img [][]byte) { mark(img, 1, 12, 15) },
		"a lost directory with no entries": func(img [][]byte) { put(img, 12, dir(30)); copy(img[30], "\xff\xff\xff") },
		"lost directories in a ring": func(img [][]byte) {
			put(img, 12, dir(30))
			put(img, 13, dir(31))
			enter(img, 30, 0, "r", 13)
			enter(img, 31, 0, "r", 12)
		},
		"a lost one that leads to the root": func(img [][]byte) { put(img, 12, dir(30)); enter(img, 30, 0, "r", 1); enter(img, 30, 1, "r", 1) },
		"a lost one that leads to none":     func(img [][]byte) { put(img, 12, dir(30)); enter(img, 30, 0, "r", 14) },
		"a lost file with fewer links": func(img [][]byte) {
			put(img, 12, dir(30))
			enter(img, 30, 0, "r", 11)
			put(img, 11, file(1, 33, 21, 22))
			enter(img, 30, 1, "s", 11)
		},
		"bytes in a free block":            func(img [][]byte) { copy(img[30], "anything") },
		"bytes behind a file's end":        func(img [][]byte) { copy(img[17], "anything at all") },
		"links that are just enough":       func(img [][]byte) { put(img, 2, file(2, 40, 13, 12)) },
		"as deep as may be":                func(img [][]byte) { put(img, 12, dir(30)); enter(img, 16, 0, "h", 12) },
		"an entry moved":                   func(img [][]byte) { enter(img, 11, 0, "", 0); enter(img, 11, 3, "d", 3) },
		"the same name in two directories": func(img [][]byte) { enter(img, 14, 3, "a", 2) },
	} {
		img := worn(t)
		change(img)
		if !Safe(img) || Clean(img) {
			t.Error(name, Safe(img), Clean(img))
		}
		if l, e := Defects(img); e != api.OK || len(l) == 0 {
			t.Error(name, l, e)
		}
		if ino, e := Find(img, "/d/e/f/g"); ino != 6 || e != api.OK {
			t.Error(name, ino, e)
		}
	}
}

// P10.1
func TestInode(t *testing.T) {
	img := worn(t)
	want := map[int]api.Inode{
		1: dir(11, 20), 2: file(5, 40, 13, 12), 3: dir(14), 4: dir(15), 5: dir(16), 6: file(1, 5, 17), 7: file(255, 0), 8: dir(18, 47), 10: dir(), 11: file(4, 33, 21, 22),
	}
	for ino := range api.Inodes {
		if n, e := Inode(img, ino); e != api.OK || !layout.Same(n, want[ino]) {
			t.Error(ino, n, e)
		}
	}
	for _, ino := range far {
		if n, e := Inode(img, ino); e != api.ErrRange || !layout.Same(n, api.Inode{}) {
			t.Error(ino, n, e)
		}
	}
}

// P10.1
func TestEntries(t *testing.T) {
	img := worn(t)
	enter(img, 18, 2, "a", 15)
	copy(img[47], make([]byte, 32))
	for ino, want := range map[int][]api.Entry{
		1:  {{Name: "d", Ino: 3}, {Name: "a", Ino: 2}, {Name: "x", Ino: 10}, {Name: "a-b", Ino: 7}},
		3:  {{Name: "e", Ino: 4}, {Name: "b", Ino: 2}},
		5:  {{Name: "g", Ino: 6}},
		8:  {{Name: "a", Ino: 2}, {Name: "d", Ino: 3}, {Name: "a", Ino: 15}}, // what they lead to is of no matter here
		10: nil,
	} {
		if l, e := Entries(img, ino); e != api.OK || !slices.Equal(l, want) {
			t.Error(ino, l, e)
		}
	}
	for _, ino := range []int{0, 2, 6, 7, 9, 11, 12, 15} {
		if l, e := Entries(img, ino); e != api.ErrNotdir || len(l) != 0 {
			t.Error(ino, l, e)
		}
	}
	for _, ino := range far {
		if l, e := Entries(img, ino); e != api.ErrRange || len(l) != 0 {
			t.Error(ino, l, e)
		}
	}
	for _, wrong := range []string{"\x05", "\x00a", "\x10a", "\x05A", "\x05a\x00b", "\x00\x00\x00\x00\x00\x00\x00\x01"} {
		for at := range 8 {
			img := sound(t)
			copy(img[11+at/4*9][at%4*8:], "\x00\x00\x00\x00\x00\x00\x00\x00")
			copy(img[11+at/4*9][at%4*8:], wrong)
			if l, e := Entries(img, 1); e != api.ErrForm || len(l) != 0 {
				t.Errorf("%q at %d: %v %d", wrong, at, l, e)
			}
			if l, e := Entries(img, 3); e != api.OK || len(l) != 2 {
				t.Error(l, e)
			}
		}
	}
}

// P10.1: eight blocks full of entries.
func TestEntriesOfAFullOne(t *testing.T) {
	img := made(t, 96)
	put(img, 1, dir(95, 11, 94, 12, 93, 13, 92, 14))
	var want []api.Entry
	for i, block := range []int{95, 11, 94, 12, 93, 13, 92, 14} {
		for at := range 4 {
			want = append(want, api.Entry{Name: string([]byte{'a' + byte(i), '0' + byte(at)}), Ino: 2})
			enter(img, block, at, want[len(want)-1].Name, 2)
		}
	}
	put(img, 2, file(32, 0))
	if l, e := Entries(img, 1); e != api.OK || !slices.Equal(l, want) {
		t.Error(l, e)
	}
	if !Clean(img) {
		t.Error("not clean")
	}
	l, e := Tree(img)
	if e != api.OK || len(l) != 33 {
		t.Fatal(l, e)
	}
	for i, n := range l[1:] {
		if n != (api.Node{Path: "/" + want[i].Name, First: "/a0"}) {
			t.Error(i, n)
		}
	}
	put(img, 2, file(31, 0))
	if Safe(img) {
		t.Error("more entries than links")
	}
}

// P10.1
func TestData(t *testing.T) {
	img := worn(t)
	copy(img[21], strings.Repeat("l", 32))
	copy(img[22], "ost")
	for ino, want := range map[int]string{2: strings.Repeat("3", 32) + "twelves!", 6: "fives", 7: "", 11: strings.Repeat("l", 32) + "o"} {
		if s, e := Data(img, ino); e != api.OK || s != want {
			t.Error(ino, s, e)
		}
	}
	for _, ino := range []int{0, 9, 12, 13, 14, 15} {
		if s, e := Data(img, ino); e != api.ErrNoent || s != "" {
			t.Error(ino, s, e)
		}
	}
	for _, ino := range []int{1, 3, 8, 10} {
		if s, e := Data(img, ino); e != api.ErrIsdir || s != "" {
			t.Error(ino, s, e)
		}
	}
	for _, ino := range far {
		if s, e := Data(img, ino); e != api.ErrRange || s != "" {
			t.Error(ino, s, e)
		}
	}
	for size := range api.MaxSize + 1 {
		blocks := []int{30, 40, 31, 41, 32, 42, 33, 43}[:(size+31)/32]
		put(img, 12, file(1, size, blocks...))
		var all string
		for _, block := range blocks {
			text := strings.Repeat(string(rune('A'+block-30)), 32)
			copy(img[block], text)
			all += text
		}
		if s, e := Data(img, 12); e != api.OK || s != all[:size] {
			t.Error(size, s, e)
		}
	}
}

// listed fails the test unless the two are the same.
func listed(t *testing.T, what string, l []int, want ...int) {
	t.Helper()
	if !slices.Equal(l, want) {
		t.Error(what, l, "not", want)
	}
}

// P10.1, P10.2, P10.4: of a clean image they are the same.
func TestUsedAndReached(t *testing.T) {
	for _, call := range []func([][]byte) ([]int, []int, api.Errno){Used, Reached} {
		blocks, inodes, e := call(made(t, 16))
		listed(t, "blocks", blocks, 0, 1, 2, 3, 4, 5, 6, 7, 8, 9, 10)
		listed(t, "inodes", inodes, 0, 1)
		if e != api.OK {
			t.Error(e)
		}
		blocks, inodes, e = call(sound(t))
		listed(t, "blocks", blocks, 0, 1, 2, 3, 4, 5, 6, 7, 8, 9, 10, 11, 12, 13, 14, 15, 16, 17, 20)
		listed(t, "inodes", inodes, 0, 1, 2, 3, 4, 5, 6, 7, 10)
		if e != api.OK {
			t.Error(e)
		}
	}
	blocks, inodes, e := Reached(worn(t))
	listed(t, "blocks", blocks, 0, 1, 2, 3, 4, 5, 6, 7, 8, 9, 10, 11, 12, 13, 14, 15, 16, 17, 20)
	listed(t, "inodes", inodes, 0, 1, 2, 3, 4, 5, 6, 7, 10)
	if e != api.OK {
		t.Error(e)
	}
	blocks, inodes, e = Used(worn(t))
	listed(t, "blocks", blocks, 0, 1, 2, 3, 4, 5, 6, 7, 8, 9, 10, 11, 12, 13, 14, 15, 16, 17, 18, 19, 20, 21, 22, 46, 47)
	listed(t, "inodes", inodes, 0, 1, 2, 3, 4, 5, 6, 7, 8, 9, 10, 11)
	if e != api.OK {
		t.Error(e)
	}
	img := made(t, 96)
	for block := 11; block < 96; block++ {
		mark(img, 2, block)
	}
	mark(img, 1, 2, 3, 4, 5, 6, 7, 8, 9, 10, 11, 12, 13, 14, 15)
	if blocks, inodes, e = Used(img); len(blocks) != 96 || blocks[95] != 95 || len(inodes) != 16 || inodes[15] != 15 || e != api.OK {
		t.Error(blocks, inodes, e)
	}
}

// P10.1: what is used is told of all that is formed, safe or not.
func TestUsedOfUnsafe(t *testing.T) {
	img := sound(t)
	unmark(img, 1, 2)
	unmark(img, 2, 20)
	blocks, inodes, e := Used(img)
	listed(t, "blocks", blocks, 0, 1, 2, 3, 4, 5, 6, 7, 8, 9, 10, 11, 12, 13, 14, 15, 16, 17)
	listed(t, "inodes", inodes, 0, 1, 3, 4, 5, 6, 7, 10)
	if e != api.OK || Safe(img) {
		t.Error(e, Safe(img))
	}
}

// P10.2: each kind, in its order.
func TestDefects(t *testing.T) {
	for _, img := range [][][]byte{made(t, 16), made(t, 96), sound(t)} {
		if l, e := Defects(img); e != api.OK || len(l) != 0 || !Clean(img) {
			t.Error(l, e, Clean(img))
		}
	}
	want := []api.Defect{
		{What: api.LostBlock, Number: 18}, {What: api.LostBlock, Number: 19}, {What: api.LostBlock, Number: 21}, {What: api.LostBlock, Number: 22}, {What: api.LostBlock, Number: 46}, {What: api.LostBlock, Number: 47},
		{What: api.LostInode, Number: 8}, {What: api.LostInode, Number: 9}, {What: api.LostInode, Number: 11},
		{What: api.ManyLinks, Number: 2}, {What: api.ManyLinks, Number: 7},
	}
	if l, e := Defects(worn(t)); e != api.OK || !slices.Equal(l, want) {
		t.Error(l, e)
	}
	for name, one := range map[string]struct {
		change func(img [][]byte)
		want   api.Defect
	}{
		"a block":          {func(img [][]byte) { mark(img, 2, 47) }, api.Defect{What: api.LostBlock, Number: 47}},
		"a free inode":     {func(img [][]byte) { mark(img, 1, 15) }, api.Defect{What: api.LostInode, Number: 15}},
		"a file":           {func(img [][]byte) { put(img, 15, file(3, 0)) }, api.Defect{What: api.LostInode, Number: 15}},
		"a directory":      {func(img [][]byte) { put(img, 15, dir()) }, api.Defect{What: api.LostInode, Number: 15}},
		"a link":           {func(img [][]byte) { put(img, 2, file(3, 40, 13, 12)) }, api.Defect{What: api.ManyLinks, Number: 2}},
		"a name that went": {func(img [][]byte) { enter(img, 11, 2, "", 0) }, api.Defect{What: api.ManyLinks, Number: 2}},
		"all links":        {func(img [][]byte) { put(img, 6, file(255, 5, 17)) }, api.Defect{What: api.ManyLinks, Number: 6}},
	} {
		img := sound(t)
		one.change(img)
		if l, e := Defects(img); e != api.OK || !slices.Equal(l, []api.Defect{one.want}) || Clean(img) || !Safe(img) {
			t.Error(name, l, e)
		}
	}
}

// P10.2: by their paths as bytes: - stands ahead of / , and that ahead of digits and letters.
func TestTree(t *testing.T) {
	many := strings.Repeat("3", 32) + "twelves!"
	want := []api.Node{
		{Path: "/", Dir: true, First: "/"}, {Path: "/a", Data: many, First: "/a"}, {Path: "/a-b", First: "/a-b"}, {Path: "/d", Dir: true, First: "/d"},
		{Path: "/d/b", Data: many, First: "/a"}, {Path: "/d/e", Dir: true, First: "/d/e"}, {Path: "/d/e/f", Dir: true, First: "/d/e/f"}, {Path: "/d/e/f/g", Data: "fives", First: "/d/e/f/g"},
		{Path: "/x", Dir: true, First: "/x"},
	}
	for _, img := range [][][]byte{sound(t), worn(t)} {
		if l, e := Tree(img); e != api.OK || !slices.Equal(l, want) {
			t.Error(l, e)
		}
	}
	img := made(t, 16)
	put(img, 1, dir(11))
	put(img, 2, dir(12))
	put(img, 3, file(3, 1, 13))
	enter(img, 11, 0, "a0", 3)
	enter(img, 11, 1, "a", 2)
	enter(img, 11, 2, "a-", 3)
	enter(img, 12, 0, "z", 3)
	img[13][0] = '!'
	want = []api.Node{
		{Path: "/", Dir: true, First: "/"}, {Path: "/a", Dir: true, First: "/a"}, {Path: "/a-", Data: "!", First: "/a-"}, {Path: "/a/z", Data: "!", First: "/a-"}, {Path: "/a0", Data: "!", First: "/a-"},
	}
	if l, e := Tree(img); e != api.OK || !slices.Equal(l, want) {
		t.Error(l, e)
	}
}

// P10.2
func TestFind(t *testing.T) {
	for _, img := range [][][]byte{sound(t), worn(t)} {
		for path, want := range map[string]int{"/": 1, "/a": 2, "/d": 3, "/d/b": 2, "/d/e": 4, "/d/e/f": 5, "/d/e/f/g": 6, "/a-b": 7, "/x": 10} {
			if ino, e := Find(img, path); ino != want || e != api.OK {
				t.Error(path, ino, e)
			}
		}
		for path, want := range map[string]api.Errno{
			"/b": api.ErrNoent, "/nope": api.ErrNoent, "/x/a": api.ErrNoent, "/x/a/b/c": api.ErrNoent, "/d/a": api.ErrNoent, "/nope/a": api.ErrNoent, "/d/e/f/gg": api.ErrNoent, "/aa": api.ErrNoent, "/a-": api.ErrNoent,
			"/a/b": api.ErrNotdir, "/a/a": api.ErrNotdir, "/a/b/c/d": api.ErrNotdir, "/d/b/c": api.ErrNotdir, "/a-b/q": api.ErrNotdir,
			"": api.ErrForm, "a": api.ErrForm, "//": api.ErrForm, "///": api.ErrForm, "/a/": api.ErrForm, "/d//e": api.ErrForm, "d/e": api.ErrForm, "/d/": api.ErrForm, "//a": api.ErrForm, " /a": api.ErrForm, "/a ": api.ErrForm, "/A": api.ErrForm,
			"/.": api.ErrForm, "/d/..": api.ErrForm, "/abcdefgh": api.ErrForm, "/a\x00": api.ErrForm, "/é": api.ErrForm, "/\xff": api.ErrForm, "/d/e/f/g/h": api.ErrForm, "/a/a/a/a/a": api.ErrForm, "/nope/A": api.ErrForm, "/a/A": api.ErrForm,
			strings.Repeat("/", 100000): api.ErrForm, strings.Repeat("/a", 100000): api.ErrForm, strings.Repeat("a", 100000): api.ErrForm,
		} {
			if ino, e := Find(img, path); ino != 0 || e != want {
				t.Errorf("%.20q: %d %d not %d", path, ino, e, want)
			}
		}
	}
}

// P3, P1 of the rules, E7: whatever is asked, and answered, the image is as it was, spare room too; asked again, all is told again.
func TestNothingChanges(t *testing.T) {
	images := slices.Collect(func(yield func([][]byte) bool) {
		for _, img := range unformed(t) {
			if !yield(img) {
				return
			}
		}
	})
	twice := sound(t)
	enter(twice, 15, 0, "q", 1)
	for _, img := range append(images, sound(t), worn(t), twice, made(t, 16)) {
		was, room := copied(img), copied(img)
		first := allOf(room)
		if !untouched(room, was) {
			t.Error("what was handed in changed")
		}
		if !allOf(room).same(first) {
			t.Error("told otherwise when asked again")
		}
	}
}

// P3 of the rules: what is answered is the caller's.
func TestAnswersAreTheCallers(t *testing.T) {
	img := worn(t)
	was := copied(img)
	before := allOf(img)
	for _, call := range []func([][]byte) ([]int, []int, api.Errno){Used, Reached} {
		blocks, inodes, _ := call(img)
		blocks[0], inodes[0] = 90, 91
		_, _ = append(blocks, 92), append(inodes, 93)
		if inodes[1] != 1 || blocks[1] != 1 {
			t.Error("two lists of one answer lie in one another")
		}
	}
	n, _ := Inode(img, 2)
	n.Blocks[0] = 77
	l, _ := Entries(img, 1)
	l[0].Name = "other"
	d, _ := Defects(img)
	d[0].Number = 77
	nodes, _ := Tree(img)
	nodes[0].Path = "other"
	if !allOf(img).same(before) || !untouched(copied(img), was) {
		t.Error("what is answered is kept")
	}
	a, b := made(t, 16), made(t, 16)
	for i := range a {
		for k := range a {
			for at := range a[k] {
				a[k][at] = byte(k)
			}
		}
		_ = append(a[i], 99)
		for k := range a {
			if a[k][0] != byte(k) {
				t.Error("blocks lie in one another", i, k)
			}
		}
	}
	if !slices.EqualFunc(b, made(t, 16), bytes.Equal) {
		t.Error("what is made lies in one another")
	}
}

// The chapter's example.
func TestExample(t *testing.T) {
	img := made(t, 16)
	blocks, _, e := Used(img)
	if len(img) != 16 || len(img)-len(blocks) != 5 || e != api.OK {
		t.Error(len(img), blocks, e)
	}
}
