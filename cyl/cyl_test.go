package cyl

import (
	"bytes"
	"math"
	"slices"
	"testing"

	"selvedge/api"
)

// group is one with these blocks used, these inodes, and that rotor.
func group(index, blocks, rotor int, used, inodes []int) api.Cyl {
	return api.Cyl{
		Index: index, Blocks: blocks, Rotor: rotor, Used: used, Inodes: inodes,
		FreeBlocks: blocks - len(used), FreeInodes: api.CylInodes - len(inodes),
	}
}

// empty are so many groups of so many blocks each.
func empty(t *testing.T, many, blocks int) []api.Cyl {
	t.Helper()
	var l []api.Cyl
	for i := range many {
		c, e := New(i, blocks)
		if e != api.OK {
			t.Fatal("New", i, blocks, e)
		}
		l = append(l, c)
	}
	return l
}

// row are the numbers from one on to below another one.
func row(from, to int) []int {
	var l []int
	for n := from; n < to; n++ {
		l = append(l, n)
	}
	return l
}

// copied are groups with all that is theirs, and same tells whether groups are so.
func copied(l []api.Cyl) []api.Cyl {
	all := slices.Clone(l)
	for i, c := range all {
		all[i].Used, all[i].Inodes = slices.Clone(c.Used), slices.Clone(c.Inodes)
	}
	return all
}

func same(a, b []api.Cyl) bool {
	return slices.EqualFunc(a, b, func(c, d api.Cyl) bool {
		return c.Index == d.Index && c.Blocks == d.Blocks && c.Rotor == d.Rotor &&
			c.FreeBlocks == d.FreeBlocks && c.FreeInodes == d.FreeInodes &&
			slices.Equal(c.Used, d.Used) && slices.Equal(c.Inodes, d.Inodes)
	})
}

// none: is that the zero group?
func none(c api.Cyl) bool {
	return same([]api.Cyl{c}, []api.Cyl{{}}) && c.Used == nil && c.Inodes == nil
}

// good are groups that are right.
func good() []api.Cyl {
	return []api.Cyl{
		group(0, 1, 0, nil, nil),
		group(15, 64, 63, nil, nil),
		group(3, 10, 9, []int{0, 9}, []int{0, 15}),
		group(7, 64, 0, row(0, 64), row(0, 16)),
		group(1, 1, 0, []int{0}, []int{7}),
		group(2, 4, 3, []int{}, []int{}),
	}
}

// bad are groups that are not, but for their counts right; miscounted are such as are wrong in these alone.
func bad() []api.Cyl {
	return []api.Cyl{
		{},
		group(-1, 8, 0, nil, nil), group(16, 8, 0, nil, nil), group(math.MaxInt, 8, 0, nil, nil), group(math.MinInt, 8, 0, nil, nil),
		group(0, 0, 0, nil, nil), group(0, 65, 0, nil, nil), group(0, -1, 0, nil, nil), group(0, math.MinInt, 0, []int{1}, nil), group(0, math.MaxInt, 0, nil, nil),
		group(0, 8, 8, nil, nil), group(0, 8, -1, nil, nil), group(0, 8, math.MaxInt, nil, nil), group(0, 64, 64, nil, nil),
		group(0, 8, 0, []int{8}, nil), group(0, 8, 0, []int{-1}, nil), group(0, 8, 0, []int{1, 1}, nil), group(0, 8, 0, []int{2, 1}, nil), group(0, 64, 0, []int{64}, nil),
		group(0, 8, 0, nil, []int{16}), group(0, 8, 0, nil, []int{-1}), group(0, 8, 0, nil, []int{3, 3}), group(0, 8, 0, nil, []int{15, 0}),
		group(0, 8, 0, []int{math.MaxInt}, nil), group(0, 8, 0, []int{math.MinInt, math.MaxInt}, nil), group(0, 8, 0, row(0, 9), nil), group(0, 8, 0, nil, row(0, 17)),
	}
}

func miscounted() []api.Cyl {
	var l []api.Cyl
	for _, c := range good() {
		for _, by := range []int{-1, 1, 256, -256, math.MaxInt} {
			more, less := c, c
			more.FreeBlocks += by
			less.FreeInodes += by
			l = append(l, more, less)
		}
		both := c
		both.FreeBlocks++
		both.FreeInodes--
		l = append(l, both)
	}
	return l
}

// P18.1
func TestNew(t *testing.T) {
	for index := -2; index < 20; index++ {
		for blocks := -2; blocks < 70; blocks++ {
			c, e := New(index, blocks)
			if index < 0 || index > 15 || blocks < 1 || blocks > 64 {
				if !none(c) || e != api.ErrRange {
					t.Error(index, blocks, c, e)
				}
				continue
			}
			if !same([]api.Cyl{c}, []api.Cyl{group(index, blocks, 0, nil, nil)}) || e != api.OK || !Right(c) {
				t.Error(index, blocks, c, e)
			}
		}
	}
	for _, n := range []int{math.MinInt, math.MaxInt} {
		if c, e := New(n, 8); !none(c) || e != api.ErrRange {
			t.Error(n, c, e)
		}
		if c, e := New(0, n); !none(c) || e != api.ErrRange {
			t.Error(n, c, e)
		}
	}
}

// P18.1
func TestRight(t *testing.T) {
	for _, c := range good() {
		if !Right(c) {
			t.Error(c)
		}
	}
	for _, c := range append(bad(), miscounted()...) {
		if Right(c) {
			t.Error(c)
		}
		if b, e := Encode(c); b != nil || e != api.ErrForm {
			t.Error(c, b, e)
		}
		if Whole([]api.Cyl{c}) {
			t.Error(c)
		}
	}
}

// P18.1
func TestEncode(t *testing.T) {
	b, e := Encode(group(3, 10, 9, []int{0, 8, 9}, []int{1, 15}))
	want := []byte{'C', 3, 10, 7, 14, 9, 1, 3, 0, 0, 0, 0, 0, 0, 2, 0x80, 0, 0, 0, 0, 0, 0, 0, 0, 0, 0, 0, 0, 0, 0, 0, 244}
	if !bytes.Equal(b, want) || e != api.OK {
		t.Error(b, e)
	}
	// The sum goes past 255.
	b, e = Encode(group(15, 64, 63, row(0, 64), row(0, 16)))
	want = []byte{'C', 15, 64, 0, 0, 63, 255, 255, 255, 255, 255, 255, 255, 255, 255, 255, 0, 0, 0, 0, 0, 0, 0, 0, 0, 0, 0, 0, 0, 0, 0, 199}
	if !bytes.Equal(b, want) || e != api.OK {
		t.Error(b, e)
	}
	for _, c := range good() {
		b, e := Encode(c)
		if len(b) != 32 || e != api.OK {
			t.Error(c, b, e)
		}
		if d, e := Decode(b); !same([]api.Cyl{c}, []api.Cyl{d}) || e != api.OK {
			t.Error(c, d, e)
		}
	}
}

// read is what bytes say, by the chapter's words.
func read(b []byte) (api.Cyl, bool) {
	if len(b) != 32 || b[0] != 'C' || b[1] > 15 || b[2] < 1 || b[2] > 64 || b[5] >= b[2] {
		return api.Cyl{}, false
	}
	c := api.Cyl{Index: int(b[1]), Blocks: int(b[2]), FreeBlocks: int(b[2]), FreeInodes: 16, Rotor: int(b[5])}
	for i := range 64 {
		if b[6+i/8]>>(i%8)&1 == 1 {
			c.Used = append(c.Used, i)
			c.FreeBlocks--
			if i >= c.Blocks {
				return api.Cyl{}, false
			}
		}
	}
	for i := range 16 {
		if b[14+i/8]>>(i%8)&1 == 1 {
			c.Inodes = append(c.Inodes, i)
			c.FreeInodes--
		}
	}
	sum := 0
	for i, n := range b[:31] {
		if sum += int(n); i >= 16 && n != 0 {
			return api.Cyl{}, false
		}
	}
	if c.FreeBlocks != int(b[3]) || c.FreeInodes != int(b[4]) || sum%256 != int(b[31]) {
		return api.Cyl{}, false
	}
	return c, true
}

// P18.1: each byte changed to each other one, with the sum as it was, and put right; and two of them.
func TestDecode(t *testing.T) {
	decodes := func(b []byte) bool {
		t.Helper()
		c, e := Decode(b)
		want, ok := read(b)
		if ok != (e == api.OK) || !ok && (e != api.ErrForm || !none(c)) || !same([]api.Cyl{c}, []api.Cyl{want}) {
			t.Fatal(b, c, e, want)
		}
		return ok
	}
	right := 0
	for _, c := range good() {
		was, _ := Encode(c)
		for at := range was {
			for n := range 256 {
				b := slices.Clone(was)
				b[at] = byte(n)
				if decodes(b) != bytes.Equal(b, was) {
					t.Error(b)
				}
				b[31] += byte(n) - was[at]
				decodes(b)
				for _, count := range []int{3, 4} {
					for by := range 9 {
						d := slices.Clone(b)
						d[count] -= byte(by)
						d[31] -= byte(by)
						if decodes(d) {
							right++
						}
					}
				}
			}
		}
	}
	if right < 500 {
		t.Error("too few are right", right)
	}
	for long := range 66 {
		decodes(make([]byte, long))
	}
	was, _ := Encode(group(0, 8, 0, nil, nil))
	decodes(nil)
	decodes(was[:31])
	decodes(append(was, 0))
	decodes(append([]byte{}, append(was, was...)...))
}

// P18.1
func TestRebuild(t *testing.T) {
	for _, c := range append(good(), miscounted()...) {
		want := group(c.Index, c.Blocks, c.Rotor, c.Used, c.Inodes)
		d, e := Rebuild(c)
		if !same([]api.Cyl{d}, []api.Cyl{want}) || e != api.OK {
			t.Error(c, d, e)
		}
		for _, l := range [][]int{d.Used, d.Inodes} {
			for i := range l[:cap(l)] {
				l[:cap(l)][i] = 77
			}
		}
		if !same([]api.Cyl{group(c.Index, c.Blocks, c.Rotor, c.Used, c.Inodes)}, []api.Cyl{want}) || slices.Contains(c.Used, 77) || slices.Contains(c.Inodes, 77) {
			t.Error("shared", c)
		}
	}
	for _, c := range bad() {
		if d, e := Rebuild(c); !none(d) || e != api.ErrForm {
			t.Error(c, d, e)
		}
	}
}

// P18.1
func TestSame(t *testing.T) {
	all := append(append(good(), bad()...), miscounted()...)
	all = append(all, group(3, 10, 9, []int{0, 8}, []int{0, 15}), group(3, 10, 9, []int{0, 9}, []int{0, 14}), group(3, 10, 8, []int{0, 9}, []int{0, 15}))
	all = append(all, group(4, 10, 9, []int{0, 9}, []int{0, 15}), group(3, 11, 9, []int{0, 9, 10}, []int{0, 15}))
	for i, c := range all {
		for k, d := range all {
			if want := same([]api.Cyl{c}, []api.Cyl{d}); Same(c, d) != want || i == k && !want {
				t.Error(c, d)
			}
		}
	}
	if !Same(group(2, 4, 3, nil, nil), group(2, 4, 3, []int{}, []int{})) {
		t.Error("nil is empty")
	}
}

// P18.1
func TestWhole(t *testing.T) {
	for many := range 18 {
		var l []api.Cyl
		for i := range many {
			l = append(l, group(i, 1+i, i, nil, nil))
		}
		if Whole(l) != (many >= 1 && many <= 16) {
			t.Error(many)
		}
		for i := range l {
			other := copied(l)
			other[i].Index = (i + 1) % 16
			if Whole(other) {
				t.Error(i, "has the Index", other[i].Index)
			}
			other[i].Index = i
			other[i].FreeInodes--
			if Whole(other) {
				t.Error(i, "is not right")
			}
		}
	}
	if Whole(nil) || Whole([]api.Cyl{}) {
		t.Error("none")
	}
	if l := empty(t, 2, 4); Whole([]api.Cyl{l[1], l[0]}) || Whole(l[1:]) || Whole([]api.Cyl{l[0], l[0]}) {
		t.Error("in another order")
	}
}

// takes takes a block, and fails the test unless it is want, and the groups are those then.
func takes(t *testing.T, l []api.Cyl, near, want api.Addr) []api.Cyl {
	t.Helper()
	was := copied(l)
	next, a, e := Take(l, near)
	if a != want || e != api.OK {
		t.Fatal("Take", near, "answers", a, e, "not", want)
	}
	if !same(l, was) {
		t.Error("what was handed in is changed")
	}
	c := &was[a.Group]
	c.Used = append(c.Used, a.Block)
	slices.Sort(c.Used)
	c.FreeBlocks--
	c.Rotor = (a.Block + 1) % c.Blocks
	if !same(next, was) || !Whole(next) {
		t.Error("Take", near, next, "not", was)
	}
	return next
}

// P18.2, example 1
func TestTake(t *testing.T) {
	l := empty(t, 2, 4)
	for _, block := range []int{2, 3, 0, 1} {
		l = takes(t, l, api.Addr{Block: 2}, api.Addr{Block: block})
	}
	l = takes(t, l, api.Addr{Block: 2}, api.Addr{Group: 1})
	l = takes(t, l, api.Addr{Block: 3}, api.Addr{Group: 1, Block: 1})
	l = takes(t, l, api.Addr{Group: 1, Block: 3}, api.Addr{Group: 1, Block: 3})
	// The Rotor went round.
	l = takes(t, l, api.Addr{Block: 3}, api.Addr{Group: 1, Block: 2})
	for _, near := range []api.Addr{{}, {Group: 1, Block: 3}} {
		if next, a, e := Take(l, near); next != nil || a != (api.Addr{}) || e != api.ErrSpace {
			t.Error(next, a, e)
		}
	}
}

// P18.2: the groups are gone through round; the Rotor is asked of others alone.
func TestTakeRound(t *testing.T) {
	l := []api.Cyl{
		group(0, 5, 3, []int{3}, nil),
		group(1, 4, 2, row(0, 4), nil),
		group(2, 6, 1, []int{0, 1, 2, 4}, nil),
		group(3, 1, 0, []int{0}, nil),
	}
	takes(t, l, api.Addr{Group: 2, Block: 4}, api.Addr{Group: 2, Block: 5})
	takes(t, l, api.Addr{Group: 2, Block: 5}, api.Addr{Group: 2, Block: 5})
	takes(t, l, api.Addr{Group: 2, Block: 3}, api.Addr{Group: 2, Block: 3})
	takes(t, l, api.Addr{Group: 2}, api.Addr{Group: 2, Block: 3})
	takes(t, l, api.Addr{Group: 1}, api.Addr{Group: 2, Block: 3})
	takes(t, l, api.Addr{Group: 1, Block: 3}, api.Addr{Group: 2, Block: 3})
	takes(t, l, api.Addr{Group: 3}, api.Addr{Block: 4})
	takes(t, l, api.Addr{Group: 0, Block: 3}, api.Addr{Block: 4})
	takes(t, l, api.Addr{Group: 0}, api.Addr{})
	l[0] = group(0, 5, 4, []int{3, 4}, nil)
	takes(t, l, api.Addr{Group: 3}, api.Addr{})
	l[2] = group(2, 6, 5, []int{0, 5}, nil)
	takes(t, l, api.Addr{Group: 1, Block: 1}, api.Addr{Group: 2, Block: 1})
}

// wrongAddrs are what is no block of two groups of four blocks each.
var wrongAddrs = []api.Addr{
	{Group: -1}, {Group: 2}, {Block: -1}, {Group: math.MaxInt, Block: 1}, {Group: math.MinInt, Block: math.MinInt},
	{Group: 1, Block: math.MaxInt}, {Group: 0, Block: math.MinInt},
}

// P18.2
func TestTakeAndGiveRefused(t *testing.T) {
	l := []api.Cyl{group(0, 4, 1, row(0, 4), nil), group(1, 4, 2, row(0, 4), nil)}
	was := copied(l)
	for _, a := range append(wrongAddrs, api.Addr{Block: 4}, api.Addr{Group: 1, Block: 4}) {
		if next, b, e := Take(l, a); next != nil || b != (api.Addr{}) || e != api.ErrRange {
			t.Error(a, next, b, e)
		}
		if next, e := Give(l, a); next != nil || e != api.ErrRange {
			t.Error(a, next, e)
		}
	}
	if next, e := Give(empty(t, 2, 4), api.Addr{Group: 1, Block: 3}); next != nil || e != api.ErrNoent {
		t.Error(next, e)
	}
	if !same(l, was) {
		t.Error("changed")
	}
}

// P18.2
func TestGive(t *testing.T) {
	l := []api.Cyl{group(0, 4, 1, row(0, 4), nil), group(1, 4, 2, []int{1, 3}, []int{5})}
	was := copied(l)
	for _, a := range []api.Addr{{Block: 0}, {Block: 3}, {Group: 1, Block: 1}, {Group: 1, Block: 3}} {
		next, e := Give(l, a)
		want := copied(was)
		c := &want[a.Group]
		c.Used = slices.DeleteFunc(c.Used, func(n int) bool { return n == a.Block })
		c.FreeBlocks++
		if !same(next, want) || e != api.OK || !same(l, was) || !Whole(next) {
			t.Error(a, next, e)
		}
		if again, e := Give(next, a); again != nil || e != api.ErrNoent {
			t.Error(a, again, e)
		}
	}
}

// files fails the test unless inodes of files are taken of groups in that order, as many as each has; each first all of one group.
func files(t *testing.T, many, group int, order ...int) {
	t.Helper()
	l := empty(t, many, 4)
	for _, g := range order {
		for ino := range api.CylInodes {
			was := copied(l)
			next, a, e := File(l, group)
			if a != (api.Addr{Group: g, Block: ino}) || e != api.OK {
				t.Fatal("File", many, group, "answers", a, e, "not", g, ino)
			}
			if !same(l, was) {
				t.Error("what was handed in is changed")
			}
			was[g].Inodes = append(was[g].Inodes, ino)
			was[g].FreeInodes--
			if !same(next, was) || !Whole(next) {
				t.Error(next, "not", was)
			}
			l = next
		}
	}
	if next, a, e := File(l, group); next != nil || a != (api.Addr{}) || e != api.ErrSpace {
		t.Error(next, a, e)
	}
}

// P18.3
func TestFile(t *testing.T) {
	files(t, 16, 0, 0, 1, 3, 7, 15, 2, 4, 5, 6, 8, 9, 10, 11, 12, 13, 14)
	files(t, 16, 10, 10, 11, 13, 1, 9, 12, 14, 15, 0, 2, 3, 4, 5, 6, 7, 8)
	files(t, 15, 0, 0, 1, 3, 7, 2, 4, 5, 6, 8, 9, 10, 11, 12, 13, 14)
	files(t, 14, 5, 5, 6, 8, 12, 7, 9, 10, 11, 13, 0, 1, 2, 3, 4)
	files(t, 8, 0, 0, 1, 3, 7, 2, 4, 5, 6)
	files(t, 7, 3, 3, 4, 6, 5, 0, 1, 2)
	files(t, 6, 0, 0, 1, 3, 2, 4, 5)
	files(t, 5, 4, 4, 0, 2, 1, 3)
	files(t, 4, 2, 2, 3, 1, 0)
	files(t, 3, 1, 1, 2, 0)
	files(t, 2, 1, 1, 0)
	files(t, 1, 0, 0)
	l := empty(t, 3, 4)
	full := []api.Cyl{group(0, 4, 0, nil, row(0, 16))}
	for _, g := range []int{-1, 3, math.MaxInt, math.MinInt} {
		for _, l := range [][]api.Cyl{l, full} {
			if next, a, e := File(l, g); next != nil || a != (api.Addr{}) || e != api.ErrRange {
				t.Error(g, next, a, e)
			}
		}
	}
	// The first inode that is free; what blocks are free is of no matter.
	l[2] = group(2, 4, 1, row(0, 4), []int{0, 1, 2, 5, 15})
	if next, a, e := File(l, 2); a != (api.Addr{Group: 2, Block: 3}) || e != api.OK || next[2].Rotor != 1 || next[2].FreeInodes != 10 {
		t.Error(next, a, e)
	}
}

// P18.3
func TestDir(t *testing.T) {
	dir := func(l []api.Cyl, g, ino int) {
		t.Helper()
		was := copied(l)
		next, a, e := Dir(l)
		if a != (api.Addr{Group: g, Block: ino}) || e != api.OK {
			t.Error("Dir answers", a, e, "not", g, ino)
			return
		}
		if !same(l, was) {
			t.Error("what was handed in is changed")
		}
		was[g].Inodes = append(was[g].Inodes, ino)
		slices.Sort(was[g].Inodes)
		was[g].FreeInodes--
		if !same(next, was) || !Whole(next) {
			t.Error(next, "not", was)
		}
	}
	dir(empty(t, 3, 8), 0, 0)
	// Most free blocks, of several the first one.
	dir([]api.Cyl{group(0, 5, 0, nil, nil), group(1, 9, 0, []int{3}, nil), group(2, 8, 0, nil, nil)}, 1, 0)
	// 3 free inodes, 4, 4: 3 on average, rounded down.
	dir([]api.Cyl{group(0, 9, 0, nil, row(0, 13)), group(1, 8, 0, nil, row(1, 13)), group(2, 8, 0, nil, row(1, 13))}, 0, 13)
	// 2, 4, 4: 3 on average: the first one has too few.
	dir([]api.Cyl{group(0, 9, 0, nil, row(0, 14)), group(1, 7, 0, nil, row(1, 13)), group(2, 8, 0, nil, row(1, 13))}, 2, 0)
	// None, none, 1: 0 on average, but one must be there, even without a block.
	dir([]api.Cyl{group(0, 9, 0, nil, row(0, 16)), group(1, 7, 0, nil, row(0, 16)), group(2, 8, 0, row(0, 8), row(1, 16))}, 2, 0)
	dir([]api.Cyl{group(0, 1, 0, []int{0}, row(0, 15))}, 0, 15)
	full := []api.Cyl{group(0, 9, 0, nil, row(0, 16)), group(1, 7, 0, nil, row(0, 16))}
	if next, a, e := Dir(full); next != nil || a != (api.Addr{}) || e != api.ErrSpace {
		t.Error(next, a, e)
	}
}

// P18.3
func TestLeave(t *testing.T) {
	l := []api.Cyl{group(0, 1, 0, []int{0}, row(0, 16)), group(1, 4, 2, nil, []int{5, 15})}
	was := copied(l)
	for _, a := range []api.Addr{{Block: 0}, {Block: 15}, {Group: 1, Block: 5}, {Group: 1, Block: 15}} {
		next, e := Leave(l, a)
		want := copied(was)
		c := &want[a.Group]
		c.Inodes = slices.DeleteFunc(c.Inodes, func(n int) bool { return n == a.Block })
		c.FreeInodes++
		if !same(next, want) || e != api.OK || !same(l, was) || !Whole(next) {
			t.Error(a, next, e)
		}
		if again, e := Leave(next, a); again != nil || e != api.ErrNoent {
			t.Error(a, again, e)
		}
	}
	for _, a := range append(wrongAddrs, api.Addr{Block: 16}, api.Addr{Group: 1, Block: 16}) {
		if next, e := Leave(l, a); next != nil || e != api.ErrRange {
			t.Error(a, next, e)
		}
	}
	for _, a := range []api.Addr{{Group: 1}, {Group: 1, Block: 4}, {Group: 1, Block: 14}} {
		if next, e := Leave(l, a); next != nil || e != api.ErrNoent {
			t.Error(a, next, e)
		}
	}
	if !same(l, was) {
		t.Error("changed")
	}
}

// P18.2
func TestFreeAndSpread(t *testing.T) {
	for _, c := range []struct {
		l                      []api.Cyl
		blocks, inodes, spread int
	}{
		{[]api.Cyl{group(0, 9, 0, row(2, 5), []int{4})}, 6, 15, 0},
		{[]api.Cyl{group(0, 64, 0, nil, nil), group(1, 7, 0, row(0, 7), row(0, 16))}, 64, 16, 64},
		{[]api.Cyl{group(0, 4, 0, nil, nil), group(1, 9, 0, nil, row(0, 3)), group(2, 6, 0, []int{5}, nil)}, 18, 45, 5},
		{empty(t, 16, 64), 1024, 256, 0},
		{nil, 0, 0, 0},
		{empty(t, 2, 4)[1:], 0, 0, 0},
		{[]api.Cyl{group(0, 9, 0, nil, nil), group(1, 5, 5, nil, nil)}, 0, 0, 0},
	} {
		blocks, inodes := Free(c.l)
		if blocks != c.blocks || inodes != c.inodes || Spread(c.l) != c.spread {
			t.Error(c.l, blocks, inodes, Spread(c.l))
		}
	}
}

// P18.2: groups that are not Whole; ErrForm goes ahead of all else.
func TestNotWhole(t *testing.T) {
	lists := [][]api.Cyl{nil, {}, empty(t, 3, 4)[1:], append(empty(t, 16, 4), group(16, 4, 0, nil, nil)), {group(0, 4, 4, row(0, 4), row(0, 16))}}
	for _, c := range append(bad(), miscounted()...) {
		lists = append(lists, []api.Cyl{c}, append(empty(t, 3, 4), c), []api.Cyl{c, group(1, 4, 0, nil, nil)})
	}
	for _, l := range lists {
		for _, a := range append(wrongAddrs, api.Addr{}) {
			if next, b, e := Take(l, a); next != nil || b != (api.Addr{}) || e != api.ErrForm {
				t.Error(l, a, next, b, e)
			}
			if next, b, e := File(l, a.Group); next != nil || b != (api.Addr{}) || e != api.ErrForm {
				t.Error(l, a, next, b, e)
			}
			if next, e := Give(l, a); next != nil || e != api.ErrForm {
				t.Error(l, a, next, e)
			}
			if next, e := Leave(l, a); next != nil || e != api.ErrForm {
				t.Error(l, a, next, e)
			}
		}
		if next, b, e := Dir(l); next != nil || b != (api.Addr{}) || e != api.ErrForm {
			t.Error(l, next, b, e)
		}
	}
}

// P3: no list of an answer lies in one that was handed in, or in one of the same answer.
func TestHandedOver(t *testing.T) {
	spare := func(l ...int) []int { return append(make([]int, 0, 20), l...) }
	l := []api.Cyl{group(0, 8, 0, spare(1, 2), spare(3, 4)), group(1, 8, 0, spare(0, 7), spare(0, 15))}
	was := copied(l)
	answers := [][]api.Cyl{}
	for _, a := range []api.Addr{{Block: 1}, {Group: 1, Block: 0}} {
		one, _, _ := Take(l, a)
		two, _ := Give(l, a)
		three, _, _ := File(l, a.Group)
		four, _, _ := Dir(l)
		five, _ := Leave(l, api.Addr{Group: a.Group, Block: 3 - 3*a.Group})
		answers = append(answers, one, two, three, four, five)
	}
	for _, next := range answers {
		if len(next) != 2 {
			t.Fatal(next)
		}
		for i := range next {
			for _, of := range [][]int{next[i].Used, next[i].Inodes} {
				kept := copied(next)
				before := slices.Clone(of)
				for k := range of[:cap(of)] {
					of[:cap(of)][k] = 77
				}
				copy(of, before)
				if !same(next, kept) {
					t.Error("two lists of one answer lie in one")
				}
				clear(of)
			}
			next[i] = api.Cyl{}
		}
	}
	if !same(l, was) {
		t.Error("changed", l)
	}
	for _, c := range l {
		if x := c.Used[:20]; slices.Max(x[2:]) != 0 {
			t.Error("behind the end", x)
		}
		if x := c.Inodes[:20]; slices.Max(x[2:]) != 0 {
			t.Error("behind the end", x)
		}
	}
}
