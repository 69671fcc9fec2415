package explore

import (
	"bytes"
	"math"
	"slices"
	"strings"
	"testing"

	"selvedge/api"
	"selvedge/image"
	"selvedge/plan"
	"selvedge/tree"
)

// made is a new image.
func made(t *testing.T, blocks int) [][]byte {
	t.Helper()
	img, e := image.Make(blocks)
	if e != api.OK {
		t.Fatal("Make", blocks, e)
	}
	return img
}

// done is an image behind operations.
func done(t *testing.T, img [][]byte, l ...api.Op) [][]byte {
	t.Helper()
	for _, o := range l {
		next, e := plan.Do(img, o)
		if e != api.OK {
			t.Fatal(o, e)
		}
		img = next
	}
	return img
}

// copied is the same image in bytes of its own.
func copied(img [][]byte) [][]byte {
	other := make([][]byte, len(img))
	for i, b := range img {
		other[i] = slices.Clone(b)
	}
	return other
}

func sameImage(a, b [][]byte) bool { return slices.EqualFunc(a, b, bytes.Equal) }

// item is one, by its patch's bytes.
func item(block, off int, data string, deps ...int) api.Item {
	return api.Item{Patch: api.Patch{Block: block, Off: off, Data: data}, Deps: deps}
}

// row are the numbers from 0 to below n.
func row(n int) []int {
	l := make([]int, n)
	for i := range l {
		l[i] = i
	}
	return l
}

// chain are n numbers, each behind the one ahead.
func chain(n int) [][]int {
	deps := make([][]int, n)
	for i := 1; i < n; i++ {
		deps[i] = []int{i - 1}
	}
	return deps
}

// bytesOf are n items that come behind nothing, each a byte of a block of data.
func bytesOf(n int) []api.Item {
	var l []api.Item
	for i := range n {
		l = append(l, item(11, i, "x"))
	}
	return l
}

// notSmall are deps that are not small.
func notSmall() [][][]int {
	return [][][]int{
		make([][]int, 15), chain(15), make([][]int, 64), make([][]int, 257), make([][]int, 100000), append(chain(14), []int{13}),
		{{0}}, {nil, {1}}, {nil, {-1}}, {nil, {0, 2}}, {nil, nil, {0, 3}}, {nil, {math.MaxInt}}, {nil, {math.MinInt}}, {nil, make([]int, 257)}, append(chain(13), []int{13}), append(chain(13), []int{0, -1}),
	}
}

// P23.1
func TestCounts(t *testing.T) {
	for _, c := range []struct {
		deps                  [][]int
		count, orders, widest int
	}{
		{nil, 1, 1, 0}, {[][]int{}, 1, 1, 0}, {make([][]int, 1), 2, 1, 1}, {make([][]int, 2), 4, 2, 2}, {chain(2), 3, 1, 1},
		{[][]int{nil, {0}, nil}, 6, 3, 2}, // the example
		{[][]int{nil, nil, {0, 1}}, 5, 2, 2}, {[][]int{nil, {0}, {0}, {1, 2}}, 6, 2, 2}, {[][]int{nil, nil, {0, 1}, {0, 1}}, 7, 4, 2},
		{[][]int{nil, {0}, {0, 1}}, 4, 1, 1}, {[][]int{nil, {0, 0, 0}, {1, 0, 1}}, 4, 1, 1}, {[][]int{nil, make([]int, 256)}, 3, 1, 1},
		// 0 must come ahead of 2 over 1 alone: they never stand side by side.
		{[][]int{nil, {0}, {1}}, 4, 1, 1}, {[][]int{nil, {0}, {1}, nil, {3}, {4}}, 16, 20, 2},
		{make([][]int, 14), 1 << 14, 87178291200, 14}, {chain(14), 15, 1, 1}, {make([][]int, 13), 1 << 13, 6227020800, 13},
		{slices.Concat(make([][]int, 13), [][]int{row(13)}), 1<<13 + 1, 6227020800, 13},
		{slices.Concat([][]int{nil}, slices.Repeat([][]int{{0}}, 13)), 1<<13 + 1, 6227020800, 13},
		{slices.Concat(make([][]int, 7), slices.Repeat([][]int{row(7)}, 7)), 255, 5040 * 5040, 7},
	} {
		if got, e := Count(c.deps); got != c.count || e != api.OK {
			t.Error("Count", c.deps, got, e)
		}
		if got, e := Orders(c.deps); got != c.orders || e != api.OK {
			t.Error("Orders", c.deps, got, e)
		}
		if got, e := Widest(c.deps); got != c.widest || e != api.OK {
			t.Error("Widest", c.deps, got, e)
		}
	}
}

// P23.1: sets are in order as numbers, members rise.
func TestAll(t *testing.T) {
	same := func(a, b [][]int) bool { return slices.EqualFunc(a, b, slices.Equal) }
	for _, most := range []int{6, 7, 100, api.MaxClosed} {
		if got, e := All([][]int{nil, {0}, nil}, most); e != api.OK || !same(got, [][]int{nil, {0}, {0, 1}, {2}, {0, 2}, {0, 1, 2}}) {
			t.Error(most, got, e)
		}
	}
	if got, e := All(make([][]int, 3), 8); e != api.OK || !same(got, [][]int{nil, {0}, {1}, {0, 1}, {2}, {0, 2}, {1, 2}, {0, 1, 2}}) {
		t.Error(got, e)
	}
	for _, deps := range [][][]int{nil, {}} {
		if got, e := All(deps, 1); e != api.OK || len(got) != 1 || len(got[0]) != 0 {
			t.Error(got, e)
		}
	}
	if got, e := All(chain(14), 15); e != api.OK || len(got) != 15 || !slices.Equal(got[14], row(14)) || !slices.Equal(got[1], []int{0}) {
		t.Error(got, e)
	}
	got, e := All(make([][]int, 12), api.MaxClosed)
	if e != api.OK || len(got) != 4096 || !slices.Equal(got[4095], row(12)) || !slices.Equal(got[2048], []int{11}) {
		t.Error(len(got), e)
	}
}

// P23.1: what is named first is answered first.
func TestAllRefuses(t *testing.T) {
	refuses := func(deps [][]int, most int, want api.Errno) {
		t.Helper()
		if got, e := All(deps, most); e != want || got != nil {
			t.Error(deps, most, got, e)
		}
	}
	wrong := []int{0, -1, api.MaxClosed + 1, math.MaxInt, math.MinInt, 1 << 32}
	for _, deps := range notSmall() {
		for _, most := range append(wrong, 1, 5, api.MaxClosed) {
			refuses(deps, most, api.ErrForm)
		}
	}
	for _, deps := range [][][]int{nil, {nil}, chain(5), make([][]int, 14)} {
		for _, most := range wrong {
			refuses(deps, most, api.ErrRange)
		}
	}
	refuses(make([][]int, 1), 1, api.ErrFull)
	refuses([][]int{nil, {0}, nil}, 5, api.ErrFull)
	refuses(chain(14), 14, api.ErrFull)
	refuses(make([][]int, 12), 4095, api.ErrFull)
	refuses(make([][]int, 13), api.MaxClosed, api.ErrFull)
	refuses(append(make([][]int, 12), row(12)), api.MaxClosed, api.ErrFull)
}

// P23.1
func TestOfNotSmall(t *testing.T) {
	for i, deps := range notSmall() {
		if got, e := Count(deps); got != 0 || e != api.ErrForm {
			t.Error("Count", i, got, e)
		}
		if got, e := Orders(deps); got != 0 || e != api.ErrForm {
			t.Error("Orders", i, got, e)
		}
		if got, e := Widest(deps); got != 0 || e != api.ErrForm {
			t.Error("Widest", i, got, e)
		}
	}
}

// refusesItems fails the test, unless all that is asked of an image and items has that error.
func refusesItems(t *testing.T, img [][]byte, l []api.Item, want api.Errno) {
	t.Helper()
	if got, e := Images(img, l); got != nil || e != want {
		t.Error("Images", len(got), e)
	}
	if got, ok, e := Unsafe(img, l); got != nil || ok || e != want {
		t.Error("Unsafe", got, ok, e)
	}
	if got, many, e := Worst(img, l); got != nil || many != 0 || e != want {
		t.Error("Worst", got, many, e)
	}
}

// wrongImages are images that are not safe.
func wrongImages(t *testing.T) [][][]byte {
	t.Helper()
	l := [][][]byte{nil, {}, {nil}, make([][]byte, 16), made(t, 16)[:15], append(made(t, 16), nil)}
	for _, at := range [][2]int{{0, 0}, {1, 0}, {2, 0}, {3, 16}, {3, 0}} {
		img := made(t, 16)
		img[at[0]][at[1]] = 0xfc
		l = append(l, img)
	}
	short := made(t, 16)
	short[12] = short[12][:31]
	// An inode that is not free, with a bit that is not set.
	lost := made(t, 16)
	lost[4][0], lost[4][1] = 1, 1
	return append(l, short, lost)
}

// P23.2
func TestWrongItems(t *testing.T) {
	img := made(t, 16)
	wrong := [][]api.Item{
		bytesOf(15), bytesOf(64), bytesOf(65), make([]api.Item, 1), {item(11, 0, "x"), item(11, 31, "xy")}, {item(-1, 0, "x")}, {item(api.MaxBlocks, 0, "x")}, {item(11, -1, "x")}, {item(11, 0, "")}, {item(11, 0, strings.Repeat("x", 33))},
		{item(11, 0, "x", 0)}, {item(11, 0, "x"), item(11, 1, "x", 1)}, {item(11, 0, "x"), item(11, 1, "x", -1)}, {item(11, 0, "x"), item(11, 1, "x", math.MaxInt)}, {item(11, 0, "x"), item(11, 1, "x", make([]int, 257)...)},
	}
	for _, l := range wrong {
		refusesItems(t, img, l, api.ErrForm)
	}
	for _, unsafe := range wrongImages(t) {
		for _, l := range [][]api.Item{nil, {}, bytesOf(1), bytesOf(14), wrong[0], wrong[5]} {
			refusesItems(t, unsafe, l, api.ErrForm)
		}
	}
	refusesItems(t, img, bytesOf(13), api.ErrFull)
	refusesItems(t, img, append(bytesOf(12), item(11, 12, "x", row(12)...)), api.ErrFull)
	refusesItems(t, img, bytesOf(14), api.ErrFull)
	// Items of blocks that are not there are small, too.
	if got, e := Images(img, []api.Item{item(16, 0, "x"), item(95, 31, "x", 0)}); e != api.OK || len(got) != 1 || !sameImage(got[0], img) {
		t.Error(got, e)
	}
}

// P23.2: just MaxClosed closed sets, and fourteen items in a row.
func TestMostClosed(t *testing.T) {
	img := made(t, 16)
	l := bytesOf(12)
	got, e := Images(img, l)
	if e != api.OK || len(got) != api.MaxClosed {
		t.Fatal(len(got), e)
	}
	for set := range api.MaxClosed {
		want := made(t, 16)
		for i := range 12 {
			if set>>i&1 == 1 {
				want[11][i] = 'x'
			}
		}
		if !sameImage(got[set], want) {
			t.Fatal(set)
		}
	}
	if set, ok, e := Unsafe(img, l); set != nil || ok || e != api.OK {
		t.Error(set, ok, e)
	}
	if set, many, e := Worst(img, l); len(set) != 0 || many != 0 || e != api.OK {
		t.Error(set, many, e)
	}
	row := bytesOf(14)
	for i := range 13 {
		row[i+1].Deps = []int{i}
	}
	if got, e := Images(img, row); e != api.OK || len(got) != 15 {
		t.Error(len(got), e)
	}
}

// P23.2
func TestImages(t *testing.T) {
	img := made(t, 16)
	with := func(pieces ...string) [][]byte {
		other := made(t, 16)
		for i, s := range pieces {
			copy(other[11+i], s)
		}
		return other
	}
	for _, c := range []struct {
		l    []api.Item
		want [][][]byte
	}{
		{nil, [][][]byte{img}},
		{[]api.Item{}, [][][]byte{img}},
		{[]api.Item{item(11, 0, "a")}, [][][]byte{img, with("a")}},
		{[]api.Item{item(11, 0, "\x00")}, [][][]byte{img}},
		{[]api.Item{item(11, 0, "a"), item(12, 0, "b")}, [][][]byte{img, with("a"), with("", "b"), with("a", "b")}},
		{[]api.Item{item(11, 0, "a"), item(12, 0, "b", 0)}, [][][]byte{img, with("a"), with("a", "b")}},
		// The second one writes over the first one: whether that is there is not to be seen.
		{[]api.Item{item(11, 0, "a"), item(11, 0, "b")}, [][][]byte{img, with("a"), with("b")}},
		// The third one takes the first one back.
		{[]api.Item{item(11, 0, "a"), item(12, 0, "b"), item(11, 0, "\x00", 0)}, [][][]byte{img, with("a"), with("", "b"), with("a", "b")}},
		{[]api.Item{item(11, 0, "a"), item(11, 0, "a"), item(50, 0, "a")}, [][][]byte{img, with("a")}},
		// An image behind which nothing is safe is one, too.
		{[]api.Item{item(0, 0, "a")}, [][][]byte{img, func() [][]byte { other := made(t, 16); other[0][0] = 'a'; return other }()}},
	} {
		got, e := Images(img, c.l)
		if e != api.OK || !slices.EqualFunc(got, c.want, sameImage) {
			t.Error(c.l, e, len(got), len(c.want))
		}
		holds(t, img, c.l)
	}
}

// file is the 16 bytes of a file without bytes.
const file = "\x01\x01\x00\x00\x00\x00\x00\x00\x00\x00\x00\x00\x00\x00\x00\x00"

// P23.2
func TestUnsafe(t *testing.T) {
	img := made(t, 16)
	bit, rec := item(1, 0, "\x07"), item(4, 0, file)
	after := func(it api.Item, deps ...int) api.Item { it.Deps = deps; return it }
	for _, c := range []struct {
		l    []api.Item
		want []int
		ok   bool
	}{
		{nil, nil, false},
		{bytesOf(3), nil, false},
		{[]api.Item{bit, after(rec, 0)}, nil, false},
		{[]api.Item{bit, rec}, []int{1}, true},
		{[]api.Item{rec, bit}, []int{0}, true},
		{[]api.Item{rec, after(bit, 0)}, []int{0}, true},
		{[]api.Item{item(11, 0, "x"), bit, after(rec, 0)}, []int{0, 2}, true},
		{[]api.Item{item(11, 0, "x"), item(12, 0, "x"), bit, after(rec, 0, 1)}, []int{0, 1, 3}, true},
		// The one that comes first as a number has not the fewest members.
		{[]api.Item{item(11, 0, "x"), after(item(0, 0, "x"), 0), item(0, 1, "x")}, []int{0, 1}, true},
		{[]api.Item{item(11, 0, "x"), item(0, 1, "x"), after(item(0, 0, "x"), 0)}, []int{1}, true},
		// What is wrong is put right by another one.
		{[]api.Item{item(0, 0, "x"), item(0, 0, "S", 0)}, []int{0}, true},
	} {
		if got, ok, e := Unsafe(img, c.l); e != api.OK || ok != c.ok || !slices.Equal(got, c.want) {
			t.Error(c.l, got, ok, e)
		}
		holds(t, img, c.l)
	}
}

// P23.2
func TestWorst(t *testing.T) {
	img := made(t, 16)
	for _, c := range []struct {
		l    []api.Item
		set  []int
		many int
	}{
		{nil, nil, 0},
		{bytesOf(4), nil, 0},
		{[]api.Item{item(2, 1, "\x0f")}, []int{0}, 1},                                                // block 11 is lost
		{[]api.Item{item(2, 1, "\x0f"), item(2, 1, "\x1f")}, []int{1}, 2},                            // 11 and 12
		{[]api.Item{item(2, 1, "\x1f"), item(2, 1, "\x0f")}, []int{0}, 2},                            // the second one gives 12 back
		{[]api.Item{item(2, 1, "\x1f"), item(1, 0, "\x07"), item(11, 0, "x")}, []int{0, 1}, 3},       // the blocks, and inode 2
		{[]api.Item{item(2, 1, "\x0f"), item(1, 0, "\x07", 0), item(0, 0, "x", 1)}, []int{0, 1}, 2},  // behind the third one it is not safe
		{[]api.Item{item(0, 0, "x"), item(2, 1, "\x0f", 0)}, nil, 0},                                 // safe behind none
		{[]api.Item{item(2, 1, "\x0f"), item(1, 0, "\x07"), item(1, 0, "\x03", 1)}, []int{0, 1}, 2},  // the third one takes the second one back
		{[]api.Item{item(11, 0, "x"), item(2, 1, "\x0f", 0), item(1, 0, "\x07")}, []int{0, 1, 2}, 2}, // what does no harm must come ahead
	} {
		if got, many, e := Worst(img, c.l); e != api.OK || many != c.many || !slices.Equal(got, c.set) {
			t.Error(c.l, got, many, e)
		}
		holds(t, img, c.l)
	}
	// What is wrong already counts, and may be put right.
	worn := made(t, 16)
	worn[1][0], worn[2][1] = 0x0f, 0xff
	if got, many, e := Worst(worn, []api.Item{item(1, 0, "\x03"), item(11, 0, "x")}); e != api.OK || many != 7 || len(got) != 0 {
		t.Error(got, many, e)
	}
	// Links that are too many are counted, too.
	linked := done(t, img, api.Op{Kind: api.Create, Path: "/a"})
	if got, many, e := Worst(linked, []api.Item{item(4, 1, "\x02"), item(1, 0, "\x0f"), item(4, 1, "\x01")}); e != api.OK || many != 2 || !slices.Equal(got, []int{0, 1}) {
		t.Error(got, many, e)
	}
}

func dir(path string) api.Node { return api.Node{Path: path, Dir: true, First: path} }

func leaf(path, data string) api.Node { return api.Node{Path: path, Data: data, First: path} }

// P23.2, P23.5
func TestTrees(t *testing.T) {
	img := made(t, 32)
	a := done(t, img, api.Op{Kind: api.Create, Path: "/a"})
	x := done(t, a, api.Op{Kind: api.Write, Path: "/a", Data: strings.Repeat("x", 40)})
	root := dir("/")
	long := strings.Repeat
	for _, c := range []struct {
		img  [][]byte
		o    api.Op
		want [][]api.Node
	}{
		{img, api.Op{Kind: api.Create, Path: "/a"}, [][]api.Node{{root}, {root, leaf("/a", "")}}},
		{img, api.Op{Kind: api.Mkdir, Path: "/a"}, [][]api.Node{{root}, {root, dir("/a")}}},
		{a, api.Op{Kind: api.Link, Path: "/a", Other: "/b"}, [][]api.Node{{root, leaf("/a", "")}, {root, leaf("/a", ""), {Path: "/b", First: "/a"}}}},
		{a, api.Op{Kind: api.Unlink, Path: "/a"}, [][]api.Node{{root, leaf("/a", "")}, {root}}},
		{a, api.Op{Kind: api.Rename, Path: "/a", Other: "/b"}, [][]api.Node{{root, leaf("/a", "")}, {root, leaf("/a", ""), {Path: "/b", First: "/a"}}, {root, leaf("/b", "")}}},
		{a, api.Op{Kind: api.Write, Path: "/a", Data: "y"}, [][]api.Node{{root, leaf("/a", "")}, {root, leaf("/a", "y")}}},
		{x, api.Op{Kind: api.Truncate, Path: "/a"}, [][]api.Node{{root, leaf("/a", long("x", 40))}, {root, leaf("/a", "")}}},
		// Of an empty file there is nothing to do.
		{a, api.Op{Kind: api.Truncate, Path: "/a"}, [][]api.Node{{root, leaf("/a", "")}}},
		// What is written is what is there.
		{x, api.Op{Kind: api.Write, Path: "/a", Off: 3, Data: "xxx"}, [][]api.Node{{root, leaf("/a", long("x", 40))}}},
		// Two blocks: each may be there without the other one.
		{x, api.Op{Kind: api.Write, Path: "/a", Off: 31, Data: "yz"}, [][]api.Node{
			{root, leaf("/a", long("x", 40))}, {root, leaf("/a", long("x", 31)+"y"+long("x", 8))}, {root, leaf("/a", long("x", 32)+"z"+long("x", 7))}, {root, leaf("/a", long("x", 31)+"yz"+long("x", 7))},
		}},
	} {
		if got, e := Trees(c.img, c.o); e != api.OK || !slices.EqualFunc(got, c.want, tree.Same) {
			t.Error(c.o, e, got)
		}
	}
}

// P23.2: trees that are nearly alike are told apart.
func TestTreeTexts(t *testing.T) {
	root := dir("/")
	trees := [][]api.Node{
		nil, {root}, {root, leaf("/a", "")}, {root, dir("/a")}, {root, leaf("/a", "x")}, {root, leaf("/a", "x\n")}, {root, leaf("/a", "x\"\n/b /b false \"")}, {root, leaf("/a", "\xff")}, {root, leaf("/a", "\ufffd")}, {root, leaf("/a", `\xff`)},
		{root, leaf("/a", ""), leaf("/b", "")}, {root, leaf("/a", ""), {Path: "/b", First: "/a"}}, {root, leaf("/a", "/b"), leaf("/b", "")}, {root, leaf("/a", "1"), leaf("/b", "23")}, {root, leaf("/a", "12"), leaf("/b", "3")},
		{root, leaf("/a", "x"), leaf("/b", "x")}, {root, leaf("/a", "x\" \"x"), leaf("/b", "x")},
	}
	for i, a := range trees {
		for j, b := range trees {
			if (treeText(a) == treeText(b)) != (i == j) {
				t.Error(a, b)
			}
		}
	}
}

// P23.2: plan.Plan's errors.
func TestTreesRefuses(t *testing.T) {
	img := done(t, made(t, 16), api.Op{Kind: api.Create, Path: "/a"}, api.Op{Kind: api.Mkdir, Path: "/d"})
	full := img
	for {
		next, e := plan.Do(full, api.Op{Kind: api.Create, Path: "/d/" + string(rune('a'+len(mustTree(t, full))))})
		if e != api.OK {
			break
		}
		full = next
	}
	for o, want := range map[api.Op]api.Errno{
		{}: api.ErrForm, {Kind: 9, Path: "/a"}: api.ErrForm, {Kind: api.Create, Path: "a"}: api.ErrForm, {Kind: api.Create, Path: "/"}: api.ErrForm, {Kind: api.Create, Path: "/n", Off: 1}: api.ErrForm, {Kind: api.Write, Path: "/a"}: api.ErrForm,
		{Kind: api.Create, Path: "/a"}: api.ErrExist, {Kind: api.Create, Path: "/a/b"}: api.ErrNotdir, {Kind: api.Unlink, Path: "/n"}: api.ErrNoent, {Kind: api.Unlink, Path: "/d"}: api.ErrIsdir, {Kind: api.Write, Path: "/a", Off: 1, Data: "x"}: api.ErrRange,
	} {
		if got, e := Trees(img, o); e != want || got != nil {
			t.Error(o, got, e)
		}
	}
	if got, e := Trees(full, api.Op{Kind: api.Write, Path: "/a", Data: strings.Repeat("x", 64)}); e != api.ErrSpace || got != nil {
		t.Error(got, e)
	}
	if got, e := Trees(full, api.Op{Kind: api.Rmdir, Path: "/d"}); e != api.ErrNotempty || got != nil {
		t.Error(got, e)
	}
	for _, unsafe := range wrongImages(t) {
		for _, o := range []api.Op{{}, {Kind: api.Create, Path: "/a"}} {
			if got, e := Trees(unsafe, o); e != api.ErrForm || got != nil {
				t.Error(o, got, e)
			}
		}
	}
}

func mustTree(t *testing.T, img [][]byte) []api.Node {
	t.Helper()
	l, e := image.Tree(img)
	if e != api.OK {
		t.Fatal(e)
	}
	return l
}

// P23.2, P23.4: the greatest plan there is.
func TestGreatestPlan(t *testing.T) {
	img := made(t, 96)
	n := api.Inode{Kind: api.File, Links: 1, Size: 256, Blocks: []int{12, 20, 30, 40, 50, 60, 70, 80}}
	img = done(t, img, api.Op{Kind: api.Create, Path: "/a"})
	img[4][2], img[4][3] = 0, 1
	for i, b := range n.Blocks {
		img[4][8+i] = byte(b)
		img[2][b/8] |= 1 << (b % 8)
		img[b][0] = byte(i)
	}
	if !image.Clean(img) {
		t.Fatal("not clean")
	}
	o := api.Op{Kind: api.Unlink, Path: "/a"}
	l, e := plan.Plan(img, o)
	if e != api.OK || len(l) != 11 {
		t.Fatal(len(l), e)
	}
	if many, e := Count(depsOf(l)); many != 2+1<<9 || e != api.OK {
		t.Error(many, e)
	}
	if got, e := Images(img, l); len(got) != 2+1<<9 || e != api.OK {
		t.Error(len(got), e)
	}
	if got, e := Trees(img, o); e != api.OK || len(got) != 2 || len(got[0]) != 2 || len(got[1]) != 1 {
		t.Error(got, e)
	}
	if set, many, e := Worst(img, l); e != api.OK || many != 9 || !slices.Equal(set, []int{0}) {
		t.Error(set, many, e)
	}
	if set, ok, e := Unsafe(img, l); ok || set != nil || e != api.OK {
		t.Error(set, ok, e)
	}
}

// P3 of the rules: what is handed in stays as it is, what is answered is the caller's.
func TestNothingIsShared(t *testing.T) {
	spare := []int{0, 0, 77, 1, 77}
	deps := [][]int{nil, spare[0:2], spare[3:4], {77}}[:3]
	stays := func(call string) {
		t.Helper()
		if !slices.Equal(spare, []int{0, 0, 77, 1, 77}) || deps[0] != nil || len(deps[1]) != 2 || len(deps[2]) != 1 || deps[:4][3][0] != 77 {
			t.Error(call, deps)
		}
	}
	Count(deps)
	Orders(deps)
	Widest(deps)
	stays("what answers no list")
	all, _ := All(deps, 9)
	for i := range all {
		all[i] = append(all[i], -5, -6, -7)
		clear(all[i])
		for j := i + 1; j < len(all); j++ {
			if len(all[j]) != j || j > 0 && all[j][j-1] != j-1 {
				t.Error(all)
			}
		}
	}
	stays("All")

	img := made(t, 16)
	l := []api.Item{item(11, 0, "a"), item(12, 0, "b", spare[0:1]...), item(2, 1, "\x0f", spare[0:2]...), item(0, 0, "x", 2), {}}[:4]
	was, items := copied(img), slices.Clone(l)
	images, _ := Images(img, l)
	for i := range images {
		again, _ := Images(img, l)
		for b := range images[i] {
			clear(images[i][b])
			images[i][b] = append(images[i][b], "more"...)
		}
		for j := i + 1; j < len(images); j++ {
			if !sameImage(images[j], again[j]) {
				t.Error(i, j)
			}
		}
		clear(images[i])
	}
	unsafe, _, _ := Unsafe(img, l)
	worst, _, _ := Worst(img, l)
	clear(append(unsafe, 1, 2, 3))
	clear(append(worst, 1, 2, 3))
	o := api.Op{Kind: api.Create, Path: "/a"}
	trees, _ := Trees(img, o)
	clear(trees[0])
	if len(trees) != 2 || len(trees[1]) != 2 || trees[1][0] != dir("/") {
		t.Error(trees)
	}
	if again, _ := Trees(img, o); again[0][0] != dir("/") {
		t.Error("kept")
	}
	stays("of items")
	for i := range l {
		if l[i].Patch != items[i].Patch || !slices.Equal(l[i].Deps, items[i].Deps) {
			t.Error(l)
		}
	}
	if !sameImage(img, was) {
		t.Error("the image")
	}
}
