package layout

import (
	"bytes"
	"math"
	"slices"
	"strings"
	"testing"

	"selvedge/api"
)

// far are numbers that are within no limits.
var far = []int{-1, -2, -16, -256, math.MinInt, math.MaxInt, 256, 257, 272, 511, 1 << 16, 1 << 32, 1<<32 + 16}

// hex are bytes by their digits; blanks between are left out.
func hex(s string) []byte {
	const digits = "0123456789abcdef"
	s = strings.ReplaceAll(s, " ", "")
	b := make([]byte, len(s)/2)
	for i := range b {
		b[i] = byte(strings.IndexByte(digits, s[2*i])<<4 | strings.IndexByte(digits, s[2*i+1]))
	}
	return b
}

// apart are bytes with spare room behind them, that tells whether it was written.
func apart(b []byte) []byte {
	room := append(slices.Clone(b), "spare room"...)
	return room[:len(b)]
}

// near asks all bytes that differ from some in one byte, and in another one that is one of others.
func near(b, others []byte, ask func(b []byte)) {
	for at := range b {
		for v := range 256 {
			one := slices.Clone(b)
			one[at] = byte(v)
			ask(one)
			for other := range b {
				for _, w := range others {
					two := slices.Clone(one)
					two[other] = w
					ask(two)
				}
			}
		}
	}
}

// untouched fails the test unless bytes that are apart are as they were.
func untouched(t *testing.T, room, was []byte) {
	t.Helper()
	if !bytes.Equal(room, was) || string(room[:len(was)+10][len(was):]) != "spare room" {
		t.Error("what was handed in changed", room[:len(was)+10])
	}
}

// inode is one with so many blocks, from a block on.
func inode(kind api.Kind, links, size, many, from int) api.Inode {
	n := api.Inode{Kind: kind, Links: links, Size: size}
	for i := range many {
		n.Blocks = append(n.Blocks, from+i)
	}
	return n
}

// with is an inode with other blocks.
func with(n api.Inode, blocks ...int) api.Inode {
	n.Blocks = blocks
	return n
}

// rightByWords says by the words alone whether an inode is right.
func rightByWords(n api.Inode) bool {
	for at, block := range n.Blocks {
		if block < 11 || block > 95 || slices.Contains(n.Blocks[:at], block) {
			return false
		}
	}
	full := n.Size / 32
	if n.Size%32 > 0 {
		full++
	}
	switch {
	case n.Kind == 0:
		return n.Links == 0 && n.Size == 0 && len(n.Blocks) == 0
	case n.Kind == 1:
		return n.Links >= 1 && n.Links <= 255 && n.Size >= 0 && n.Size <= 256 && len(n.Blocks) == full
	case n.Kind == 2:
		return n.Links == 1 && n.Size == 0 && len(n.Blocks) <= 8
	}
	return false
}

// many are inodes of all kinds, right ones and others.
func many() []api.Inode {
	var l []api.Inode
	for kind := range 5 {
		for _, links := range append([]int{0, 1, 2, 3, 100, 254, 255}, far...) {
			for _, size := range append([]int{0, 1, 2, 31, 32, 33, 63, 64, 65, 223, 224, 225, 255}, far...) {
				for blocks := range 10 {
					l = append(l, inode(api.Kind(kind), links, size, blocks, 11+size&63))
				}
			}
		}
	}
	for size := -2; size < 260; size++ {
		for blocks := range 10 {
			l = append(l, inode(api.File, 1, size, blocks, 86-blocks))
		}
	}
	for kind := range 256 {
		l = append(l, inode(api.Kind(kind), 0, 0, 0, 0), inode(api.Kind(kind), 1, 0, 0, 0), inode(api.Kind(kind), 1, 32, 1, 20), inode(api.Kind(kind), 1, 0, 1, 20))
	}
	return append(l, blocked()...)
}

// blocked are a file and a directory with blocks that may be, and with such as may not.
func blocked() []api.Inode {
	var l []api.Inode
	for blocks := 1; blocks <= 8; blocks++ {
		for _, n := range []api.Inode{inode(api.File, 1, 32*blocks, blocks, 30), inode(api.Dir, 1, 0, blocks, 30)} {
			for at := range blocks {
				for _, block := range append([]int{0, 1, 10, 11, 12, 29, 30, 31, 36, 37, 94, 95, 96, 97, 255}, far...) {
					other := slices.Clone(n.Blocks)
					other[at] = block
					l = append(l, with(n, other...))
				}
			}
			back := slices.Clone(n.Blocks)
			slices.Reverse(back)
			l = append(l, n, with(n, back...))
		}
	}
	return l
}

// P9.1: the first block, byte by byte, of each number that may be.
func TestSuper(t *testing.T) {
	for blocks := api.MinBlocks; blocks <= api.MaxBlocks; blocks++ {
		b, e := Super(blocks)
		want := append([]byte{'S', 'T', byte(blocks), 16}, make([]byte, 28)...)
		if e != api.OK || !bytes.Equal(b, want) {
			t.Error(blocks, b, e)
		}
	}
	for _, blocks := range append([]int{0, 1, 11, 15, 97, 98, 128}, far...) {
		if b, e := Super(blocks); len(b) != 0 || e != api.ErrRange {
			t.Error(blocks, b, e)
		}
	}
}

// P9.1, P9.3: of each first block its number; none of what differs from one in a byte.
func TestReadSuper(t *testing.T) {
	for _, blocks := range []int{16, 17, 48, 95, 96} {
		b, _ := Super(blocks)
		for at := range b {
			for v := range 256 {
				other := apart(b)
				other[at] = byte(v)
				was := slices.Clone(other)
				n, e := ReadSuper(other)
				right := bytes.Equal(other, b) || at == 2 && v >= 16 && v <= 96
				if right && (n != int(other[2]) || e != api.OK) || !right && (n != 0 || e != api.ErrForm) {
					t.Error(other, n, e)
				}
				untouched(t, other, was)
			}
		}
		for size := range 100 {
			cut := append(slices.Clone(b), make([]byte, 100)...)[:size]
			if n, e := ReadSuper(cut); size != 32 && (n != 0 || e != api.ErrForm) {
				t.Error(size, n, e)
			}
		}
	}
	if n, e := ReadSuper(nil); n != 0 || e != api.ErrForm {
		t.Error(n, e)
	}
}

// P9.1: right ones and wrong ones, each at its edges.
func TestRight(t *testing.T) {
	for _, n := range []api.Inode{
		{}, {Blocks: []int{}}, inode(api.File, 1, 0, 0, 0), inode(api.File, 255, 0, 0, 0), inode(api.File, 1, 1, 1, 11), inode(api.File, 2, 32, 1, 95),
		inode(api.File, 1, 33, 2, 94), inode(api.File, 7, 225, 8, 20), inode(api.File, 1, 256, 8, 88), inode(api.Dir, 1, 0, 0, 0), inode(api.Dir, 1, 0, 1, 11),
		inode(api.Dir, 1, 0, 8, 88), with(inode(api.Dir, 1, 0, 0, 0), 95, 11, 50),
	} {
		if !Right(n) {
			t.Error(n)
		}
	}
	for _, n := range []api.Inode{
		{Links: 1}, {Size: 1}, {Blocks: []int{11}}, {Kind: 3}, {Kind: 255}, {Kind: 3, Links: 1}, {Links: -1}, {Size: -1},
		inode(api.File, 0, 0, 0, 0), inode(api.File, 256, 0, 0, 0), inode(api.File, -1, 0, 0, 0), inode(api.File, 1, -1, 0, 0), inode(api.File, 1, -32, 0, 0), inode(api.File, 1, 257, 9, 20), inode(api.File, 1, 257, 8, 20),
		inode(api.File, 1, 0, 1, 20), inode(api.File, 1, 1, 0, 0), inode(api.File, 1, 32, 2, 20), inode(api.File, 1, 33, 1, 20), inode(api.File, 1, math.MaxInt, 8, 20), inode(api.File, 1, math.MinInt, 0, 20),
		inode(api.File, 1, 32, 1, 10), inode(api.File, 1, 32, 1, 96), inode(api.File, 1, 32, 1, 0), inode(api.File, 1, 32, 1, -1), with(inode(api.File, 1, 64, 0, 0), 20, 20),
		inode(api.Dir, 0, 0, 0, 0), inode(api.Dir, 2, 0, 0, 0), inode(api.Dir, 1, 1, 0, 0), inode(api.Dir, 1, 32, 1, 20), inode(api.Dir, 1, 0, 9, 20), inode(api.Dir, 1, 0, 85, 11),
		inode(api.Dir, 1, 0, 1, 10), inode(api.Dir, 1, 0, 1, 96), with(inode(api.Dir, 1, 0, 0, 0), 30, 31, 30), with(inode(api.Dir, 1, 0, 0, 0), make([]int, 100000)...),
	} {
		if Right(n) {
			t.Error(n.Kind, n.Links, n.Size, len(n.Blocks))
		}
	}
}

// P9.1: a great many against the words; P9.3: what is read of what was written is it.
func TestInodesAgainstTheWords(t *testing.T) {
	rights := 0
	for _, n := range many() {
		was := with(n, slices.Clone(n.Blocks)...)
		right := rightByWords(n)
		if Right(n) != right {
			t.Fatal(n, "right", !right)
		}
		b, e := Inode(n)
		if !Same(n, was) {
			t.Fatal("what was handed in changed", n, was)
		}
		if !right {
			if len(b) != 0 || e != api.ErrForm {
				t.Fatal(n, b, e)
			}
			continue
		}
		rights++
		if back, r := ReadInode(b); e != api.OK || r != api.OK || !Same(back, n) {
			t.Fatal(n, b, e, back, r)
		}
	}
	if rights < 500 {
		t.Error("too few are right to tell anything:", rights)
	}
}

// P9.1: an inode's bytes.
func TestInode(t *testing.T) {
	for _, c := range []struct {
		n    api.Inode
		want string
	}{
		{api.Inode{}, "00 00 0000 00000000 0000000000000000"},
		{inode(api.Dir, 1, 0, 0, 0), "02 01 0000 00000000 0000000000000000"},
		{with(inode(api.Dir, 1, 0, 0, 0), 95, 11, 16), "02 01 0000 00000000 5f0b100000000000"},
		{inode(api.Dir, 1, 0, 8, 11), "02 01 0000 00000000 0b0c0d0e0f101112"},
		{inode(api.File, 255, 0, 0, 0), "01 ff 0000 00000000 0000000000000000"},
		{inode(api.File, 3, 33, 2, 94), "01 03 2100 00000000 5e5f000000000000"},
		{inode(api.File, 1, 255, 8, 16), "01 01 ff00 00000000 1011121314151617"},
		{inode(api.File, 1, 256, 8, 16), "01 01 0001 00000000 1011121314151617"},
	} {
		b, e := Inode(c.n)
		if e != api.OK || !bytes.Equal(b, hex(c.want)) {
			t.Error(c.n, b, e)
		}
		if n, e := ReadInode(hex(c.want)); e != api.OK || !Same(n, c.n) {
			t.Error(c.want, n, e)
		}
	}
}

// readByWords says by the words alone which inode bytes are.
func readByWords(b []byte) (api.Inode, bool) {
	n := api.Inode{Kind: api.Kind(b[0]), Links: int(b[1]), Size: int(b[2]) + 256*int(b[3])}
	for _, v := range b[4:8] {
		if v != 0 {
			return n, false
		}
	}
	over := false
	for _, v := range b[8:] {
		if v != 0 && over {
			return n, false
		}
		if over = v == 0; !over {
			n.Blocks = append(n.Blocks, int(v))
		}
	}
	return n, rightByWords(n)
}

// P9.1, P9.3: all bytes that differ from an inode's in one byte, or in two, against the words.
func TestReadInodeAgainstTheWords(t *testing.T) {
	ask := func(b []byte) {
		room := apart(b)
		n, e := ReadInode(room)
		untouched(t, room, b)
		want, right := readByWords(b)
		if right && (e != api.OK || !Same(n, want)) || !right && (e != api.ErrForm || !Same(n, api.Inode{})) {
			t.Fatal(b, n, e)
		}
		if back, _ := Inode(n); right && !bytes.Equal(back, b) {
			t.Fatal(b, back)
		}
	}
	for _, n := range []api.Inode{{}, inode(api.Dir, 1, 0, 0, 0), inode(api.Dir, 1, 0, 3, 20), inode(api.Dir, 1, 0, 8, 20), inode(api.File, 1, 0, 0, 0), inode(api.File, 9, 70, 3, 30), inode(api.File, 1, 256, 8, 20)} {
		b, _ := Inode(n)
		near(b, []byte{0, 1, 2, 10, 11, 33, 95, 96, 255}, ask)
	}
}

// P9.1: bytes that are too few, or too many.
func TestReadInodeOfOtherSizes(t *testing.T) {
	for size := range 70 {
		for _, first := range []string{"", "\x02\x01", "\x01\x01"} {
			b := make([]byte, size)
			copy(b, first)
			if n, e := ReadInode(b); size != 16 && (e != api.ErrForm || !Same(n, api.Inode{})) {
				t.Error(size, n, e)
			}
		}
	}
	if n, e := ReadInode(nil); e != api.ErrForm || !Same(n, api.Inode{}) {
		t.Error(n, e)
	}
}

// P9.1: of two, each part tells them apart; whether they are right is of no matter.
func TestSame(t *testing.T) {
	l := []api.Inode{
		{}, {Kind: 1}, {Kind: 2}, {Kind: 200}, {Links: 1}, {Links: -1}, {Size: 1}, {Size: -256}, {Size: 257}, {Blocks: []int{0}}, {Blocks: []int{0, 0}}, {Blocks: []int{11}}, {Blocks: []int{11, 12}}, {Blocks: []int{12, 11}}, {Blocks: []int{11, 13}},
		inode(api.File, 1, 40, 2, 20), inode(api.File, 2, 40, 2, 20), inode(api.File, 1, 41, 2, 20), inode(api.File, 1, 40, 2, 21), inode(api.File, 1, 40, 3, 20), inode(api.Dir, 1, 40, 2, 20),
	}
	for i, a := range l {
		for k, b := range l {
			if Same(a, with(b, slices.Clone(b.Blocks)...)) != (i == k) {
				t.Error(a, b)
			}
		}
	}
	if !Same(api.Inode{Blocks: []int{}}, api.Inode{}) || !Same(api.Inode{}, api.Inode{Blocks: make([]int, 0, 9)}) {
		t.Error("a list may be nil, where it is empty")
	}
}

// P9.2: names, and what is none; each byte and each rune that a name may have.
func TestName(t *testing.T) {
	const letters = "abcdefghijklmnopqrstuvwxyz0123456789-"
	for _, s := range []string{"a", "z", "0", "9", "-", "--", "abcdefg", "0123456", "-------", "a-b-c-d", "7z"} {
		if !Name(s) {
			t.Error(s)
		}
	}
	for _, s := range []string{"", "abcdefgh", "--------", "A", "Z", "/", "a/", "/a", "a b", " a", "a ", "_", ".", "..", "a.b", "\x00", "a\x00", "\x00a", "a\n", "é", "aé", "世", "０", "а", "a\u0300", "\xff", "a\x80", "ﬀ", strings.Repeat("a", 100000)} {
		if Name(s) {
			t.Errorf("%q", s)
		}
	}
	for v := range 256 {
		one := string([]byte{byte(v)})
		want := strings.Contains(letters, one)
		for at := range api.MaxName {
			if s := "abcdefg"[:at] + one + "abcdefg"[at+1:]; Name(s) != want {
				t.Errorf("%q", s)
			}
		}
		for size := range 12 {
			if s := strings.Repeat(one, size); Name(s) != (want && size >= 1 && size <= 7) {
				t.Errorf("%q", s)
			}
		}
	}
	for r := rune(128); r < 0x3000; r++ {
		if Name(string(r)) || Name("a"+string(r)) {
			t.Errorf("%q", r)
		}
	}
}

// P9.2: an entry's bytes, and back.
func TestEntry(t *testing.T) {
	for _, c := range []struct {
		e    api.Entry
		want string
	}{
		{api.Entry{}, "0000000000000000"}, {api.Entry{Name: "a", Ino: 5}, "0561000000000000"}, {api.Entry{Name: "abcdefg", Ino: 15}, "0f61626364656667"},
		{api.Entry{Name: "-", Ino: 1}, "012d000000000000"}, {api.Entry{Name: "z0-9", Ino: 10}, "0a7a302d39000000"},
	} {
		if b, e := Entry(c.e); e != api.OK || !bytes.Equal(b, hex(c.want)) {
			t.Error(c.e, b, e)
		}
		if entry, e := ReadEntry(hex(c.want)); e != api.OK || entry != c.e {
			t.Error(c.want, entry, e)
		}
	}
	for _, name := range []string{"a", "abcdefg", "-", "0"} {
		for ino := -3; ino < 300; ino++ {
			b, e := Entry(api.Entry{Name: name, Ino: ino})
			if right := ino >= 1 && ino <= 15; right != (e == api.OK) || !right && (e != api.ErrForm || len(b) != 0) {
				t.Error(name, ino, b, e)
			}
			back, r := ReadEntry(b)
			if e == api.OK && (r != api.OK || back != api.Entry{Name: name, Ino: ino}) {
				t.Error(name, ino, back, r)
			}
		}
	}
	wrong := []api.Entry{{Ino: 5}, {Name: "a"}, {Name: "abcdefgh", Ino: 5}, {Name: "A", Ino: 5}, {Name: "a\x00", Ino: 5}, {Name: "\x00", Ino: 5}, {Name: "\x00"}, {Name: "a/b", Ino: 5}, {Ino: -1}, {Name: strings.Repeat("a", 1000), Ino: 5}}
	for _, ino := range far {
		wrong = append(wrong, api.Entry{Name: "a", Ino: ino}, api.Entry{Ino: ino})
	}
	for _, entry := range wrong {
		if b, e := Entry(entry); len(b) != 0 || e != api.ErrForm {
			t.Error(entry, b, e)
		}
	}
}

// entryByWords says by the words alone which entry bytes are.
func entryByWords(b []byte) (api.Entry, bool) {
	name, rest, _ := strings.Cut(string(b[1:]), "\x00")
	if strings.Trim(rest, "\x00") != "" {
		return api.Entry{}, false
	}
	if strings.Trim(name, "abcdefghijklmnopqrstuvwxyz0123456789-") != "" {
		return api.Entry{}, false
	}
	for _, v := range []byte(name) {
		if strings.IndexByte("abcdefghijklmnopqrstuvwxyz0123456789-", v) < 0 {
			return api.Entry{}, false
		}
	}
	none := b[0] == 0 && name == ""
	return api.Entry{Name: name, Ino: int(b[0])}, none || name != "" && b[0] >= 1 && b[0] <= 15
}

// P9.2, P9.3: all bytes that differ from an entry's in one byte, or in two, against the words.
func TestReadEntryAgainstTheWords(t *testing.T) {
	ask := func(b []byte) {
		room := apart(b)
		entry, e := ReadEntry(room)
		untouched(t, room, b)
		want, right := entryByWords(b)
		if right && (e != api.OK || entry != want) || !right && (e != api.ErrForm || entry != api.Entry{}) {
			t.Fatal(b, entry, e)
		}
		if back, _ := Entry(entry); right && !bytes.Equal(back, b) {
			t.Fatal(b, back)
		}
	}
	for _, s := range []string{"0000000000000000", "0561000000000000", "0f61626364656667", "017a2d3900000000", "0361626364656600"} {
		near(hex(s), []byte{0, 1, 15, 16, 32, '-', '.', '0', 'a', 'z', 255}, ask)
	}
	for size := range 40 {
		b := append([]byte("\x05abcdefg"), make([]byte, 40)...)[:size]
		if entry, e := ReadEntry(b); size != 8 && (e != api.ErrForm || entry != api.Entry{}) {
			t.Error(size, entry, e)
		}
		if entry, e := ReadEntry(make([]byte, size)); (size == 8) != (e == api.OK) || entry != (api.Entry{}) {
			t.Error(size, entry, e)
		}
	}
	if entry, e := ReadEntry(nil); e != api.ErrForm || entry != (api.Entry{}) {
		t.Error(entry, e)
	}
}

// P9.2: each inode stands at a place of its own, in the blocks 3 to 10.
func TestWhere(t *testing.T) {
	for ino := range api.Inodes {
		block, off, e := Where(ino)
		if e != api.OK || block != 3+ino/2 || off != ino%2*16 {
			t.Error(ino, block, off, e)
		}
	}
	if block, off, e := Where(15); block != 10 || off != 16 || e != api.OK {
		t.Error(block, off, e)
	}
	for _, ino := range append([]int{16, 17, 32}, far...) {
		if block, off, e := Where(ino); block != 0 || off != 0 || e != api.ErrRange {
			t.Error(ino, block, off, e)
		}
	}
}

// P3 of the rules: what is answered is the caller's.
func TestAnswersAreTheCallers(t *testing.T) {
	for _, make := range []func() []byte{
		func() []byte { b, _ := Super(16); return b }, func() []byte { b, _ := Inode(api.Inode{}); return b }, func() []byte { b, _ := Inode(inode(api.File, 1, 40, 2, 20)); return b },
		func() []byte { b, _ := Entry(api.Entry{}); return b }, func() []byte { b, _ := Entry(api.Entry{Name: "ab", Ino: 3}); return b },
	} {
		a, was := make(), make()
		for at := range a {
			a[at] = 77
		}
		_ = append(a, 78)
		if b := make(); !bytes.Equal(b, was) {
			t.Error(b, was)
		}
	}
	b := hex("0201000000000000 0b0c000000000000")
	n, _ := ReadInode(b)
	m, _ := ReadInode(b)
	n.Blocks[0] = 50
	_ = append(n.Blocks[:1], 51)
	if m.Blocks[0] != 11 || m.Blocks[1] != 12 || b[8] != 11 || b[9] != 12 {
		t.Error(m, b)
	}
	b[8] = 60
	if m.Blocks[0] != 11 {
		t.Error(m)
	}
}

// The chapter's example.
func TestExample(t *testing.T) {
	if b, e := Entry(api.Entry{Name: "a", Ino: 5}); e != api.OK || !bytes.Equal(b, []byte{5, 0x61, 0, 0, 0, 0, 0, 0}) {
		t.Error(b, e)
	}
}
