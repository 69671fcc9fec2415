package big

import (
	"bytes"
	"math"
	"slices"
	"testing"

	"selvedge/api"
	"selvedge/merge"
	"selvedge/patch"
)

// image are so many blocks, of which each byte is such that none is a block of pointers by chance.
func image(blocks int) [][]byte {
	var img [][]byte
	for range blocks {
		img = append(img, bytes.Repeat([]byte{200}, api.BlockSize))
	}
	return img
}

// points lets a block of an image be one of pointers, of which these slots point to something.
func points(img [][]byte, block int, slots map[int]byte) {
	clear(img[block])
	for slot, at := range slots {
		img[block][slot] = at
	}
}

// example is a file of 40 blocks of an image: two direct blocks, two behind the block 10, three behind the block 20 with the blocks 21 and 22.
func example() ([][]byte, api.Big) {
	img := image(40)
	points(img, 10, map[int]byte{0: 11, 31: 12})
	points(img, 20, map[int]byte{0: 21, 30: 22})
	points(img, 21, map[int]byte{1: 31, 0: 39})
	points(img, 22, map[int]byte{31: 32})
	return img, api.Big{Direct: [6]int{1: 2, 5: 1}, Indirect: 10, Double: 20}
}

// Where the blocks of the example lie.
var (
	examplePlaces = []int{1, 5, 6, 37, 38, 39, 38 + 30*32 + 31}
	exampleBlocks = []int{2, 1, 11, 12, 39, 31, 32}
	exampleInner  = []int{10, 20, 21, 22}
)

// copied is the same image, in bytes of its own.
func copied(img [][]byte) [][]byte {
	other := make([][]byte, len(img))
	for i, b := range img {
		other[i] = slices.Clone(b)
	}
	return other
}

func same(a, b [][]byte) bool { return slices.EqualFunc(a, b, bytes.Equal) }

// far are numbers of no place and no block.
var far = []int{-1, -6, math.MinInt, math.MaxInt, 1062, 1063, 1 << 32, -1 << 32, 1<<32 + 5}

// P19.1
func TestWay(t *testing.T) {
	k := 0
	is := func(want ...int) {
		t.Helper()
		if l, e := Way(k); !slices.Equal(l, want) || e != api.OK {
			t.Error(k, l, e, "not", want)
		}
		k++
	}
	for slot := range 6 {
		is(slot)
	}
	for slot := range 32 {
		is(6, slot)
	}
	for slot := range 32 {
		for inner := range 32 {
			is(7, slot, inner)
		}
	}
	if k != api.BigBlocks {
		t.Error(k)
	}
	for _, k := range far {
		if l, e := Way(k); l != nil || e != api.ErrRange {
			t.Error(k, l, e)
		}
	}
	l, _ := Way(40)
	l[0], l[2] = 99, 99
	k = 40
	is(7, 0, 2)
}

// P19.1
func TestEncode(t *testing.T) {
	for f, want := range map[api.Big][]byte{
		{}: {0, 0, 0, 0, 0, 0, 0, 0},
		{Direct: [6]int{1, 2, 3, 4, 5, 6}, Indirect: 7, Double: 8}:                 {1, 2, 3, 4, 5, 6, 7, 8},
		{Direct: [6]int{255, 0, 255, 0, 0, 255}, Indirect: 255}:                    {255, 0, 255, 0, 0, 255, 255, 0},
		{Direct: [6]int{9, 9, 9, 9, 9, 9}, Indirect: 9, Double: 255}:               {9, 9, 9, 9, 9, 9, 9, 255},
		{Direct: [6]int{255, 255, 255, 255, 255, 255}, Indirect: 255, Double: 255}: {255, 255, 255, 255, 255, 255, 255, 255},
		{Direct: [6]int{0: 96, 3: 128}, Indirect: 0, Double: 100}:                  {96, 0, 0, 128, 0, 0, 0, 100},
	} {
		if b, e := Encode(f); !bytes.Equal(b, want) || e != api.OK {
			t.Error(f, b, e)
		}
		was := slices.Clone(want)
		if g, e := Decode(want); g != f || e != api.OK || !bytes.Equal(was, want) {
			t.Error(want, g, e)
		}
	}
	for _, n := range []int{-1, 256, 257, 512, math.MaxInt, math.MinInt, 1 << 32, -256} {
		for slot := range 8 {
			f := api.Big{Direct: [6]int{1, 2, 3, 4, 5, 6}, Indirect: 7, Double: 8}
			switch slot {
			case 6:
				f.Indirect = n
			case 7:
				f.Double = n
			default:
				f.Direct[slot] = n
			}
			if b, e := Encode(f); b != nil || e != api.ErrForm {
				t.Error(f, b, e)
			}
		}
	}
}

// P19.1
func TestDecode(t *testing.T) {
	for long := range 40 {
		f, e := Decode(bytes.Repeat([]byte{3}, long))
		if long == 8 {
			if f != (api.Big{Direct: [6]int{3, 3, 3, 3, 3, 3}, Indirect: 3, Double: 3}) || e != api.OK {
				t.Error(f, e)
			}
		} else if f != (api.Big{}) || e != api.ErrForm {
			t.Error(long, f, e)
		}
	}
	if f, e := Decode(nil); f != (api.Big{}) || e != api.ErrForm {
		t.Error(f, e)
	}
}

// rightAndWrong goes through files and images, and tells of each whether it is right.
func rightAndWrong(yield func(what string, img [][]byte, f api.Big, right bool)) {
	with := func(what string, right bool, change func(img [][]byte, f *api.Big) [][]byte) {
		img, f := example()
		img = change(img, &f)
		yield(what, img, f, right)
	}
	inFile := func(what string, right bool, change func(f *api.Big)) {
		with(what, right, func(img [][]byte, f *api.Big) [][]byte { change(f); return img })
	}
	pointer := func(what string, right bool, block, slot int, at byte) {
		with(what, right, func(img [][]byte, _ *api.Big) [][]byte { img[block][slot] = at; return img })
	}
	inFile("the example", true, func(f *api.Big) {})
	inFile("another block", true, func(f *api.Big) { f.Direct[0] = 38 })
	for _, n := range []int{40, 41, 96, 255, 256, 1 << 32, math.MaxInt, -1, -40, math.MinInt} {
		inFile("direct", false, func(f *api.Big) { f.Direct[0] = n })
		inFile("the last direct", false, func(f *api.Big) { f.Direct[5] = n })
		inFile("indirect", false, func(f *api.Big) { f.Indirect = n })
		inFile("double", false, func(f *api.Big) { f.Double = n })
	}
	for _, n := range slices.Concat(exampleBlocks, exampleInner) {
		inFile("twice, direct", false, func(f *api.Big) { f.Direct[0] = n })
		pointer("twice, behind indirect", false, 10, 7, byte(n))
		pointer("twice, behind double", false, 20, 7, byte(n))
		pointer("twice, behind both", false, 22, 7, byte(n))
	}
	for _, block := range exampleInner {
		pointer("beyond", false, block, 9, 40)
		pointer("far beyond", false, block, 9, 255)
	}
	pointer("one more", true, 10, 7, 38)
	pointer("one more of two", true, 22, 7, 38)
	pointer("a block whose bytes are no pointers", false, 20, 7, 38)
	pointer("a block that is not pointed to", true, 30, 7, 1)
	inFile("the same one for both", false, func(f *api.Big) { f.Indirect = f.Double })
	with("empty ones", true, func(img [][]byte, f *api.Big) [][]byte {
		clear(img[10])
		clear(img[20])
		return img
	})
	with("a short block", false, func(img [][]byte, f *api.Big) [][]byte { img[35] = img[35][:31]; return img })
	with("a long block", false, func(img [][]byte, f *api.Big) [][]byte { img[0] = append(img[0], 0); return img })
	with("no block", false, func(img [][]byte, f *api.Big) [][]byte { img[39] = nil; return img })
	with("less blocks", false, func(img [][]byte, f *api.Big) [][]byte { return img[:39] })
	with("96 blocks", true, func(img [][]byte, f *api.Big) [][]byte { return append(img, image(56)...) })
	with("97 blocks", false, func(img [][]byte, f *api.Big) [][]byte { return append(img, image(57)...) })
	with("the last one of 96", true, func(img [][]byte, f *api.Big) [][]byte {
		img[22][0] = 95
		return append(img, image(56)...)
	})
	yield("none of none", nil, api.Big{}, true)
	yield("one of none", nil, api.Big{Direct: [6]int{0, 1}}, false)
	yield("none of a wrong image", [][]byte{nil}, api.Big{}, false)
	yield("none of too many", image(97), api.Big{}, false)
}

// P19.1; of a file that is not right each call has ErrForm, whatever else is wrong.
func TestRight(t *testing.T) {
	rightAndWrong(func(what string, img [][]byte, f api.Big, right bool) {
		was := copied(img)
		if Right(img, f) != right {
			t.Error(what, !right)
		}
		for _, k := range append(far, 0, 6, 38) {
			if at, e := Get(img, f, k); (e == api.ErrForm) == right || !right && at != 0 {
				t.Error(what, k, at, e)
			}
			next, g, n, e := Put(img, f, k, k, []int{k, k})
			if (e == api.ErrForm) == right || !right && (next != nil || g != (api.Big{}) || n != 0) {
				t.Error(what, k, next, g, n, e)
			}
			if l, e := Patches(img, f, k, k, []int{k, k}); (e == api.ErrForm) == right || !right && l != nil {
				t.Error(what, k, l, e)
			}
			next, g, free, e := Cut(img, f, k)
			if (e == api.ErrForm) == right || !right && (next != nil || g != (api.Big{}) || free != nil) {
				t.Error(what, k, next, g, free, e)
			}
		}
		places, blocks, e := All(img, f)
		if (e == api.ErrForm) == right || !right && (places != nil || blocks != nil) {
			t.Error(what, places, blocks, e)
		}
		if l, e := Inner(img, f); (e == api.ErrForm) == right || !right && l != nil {
			t.Error(what, l, e)
		}
		if !same(img, was) {
			t.Error(what, "changed")
		}
	})
}

// P19.1
func TestGet(t *testing.T) {
	img, f := example()
	for k := range api.BigBlocks {
		want := 0
		if i := slices.Index(examplePlaces, k); i >= 0 {
			want = exampleBlocks[i]
		}
		if at, e := Get(img, f, k); at != want || e != api.OK {
			t.Error(k, at, e, "not", want)
		}
		if at, e := Get(img, api.Big{}, k); at != 0 || e != api.OK {
			t.Error(k, at, e)
		}
	}
	for _, k := range far {
		if at, e := Get(img, f, k); at != 0 || e != api.ErrRange {
			t.Error(k, at, e)
		}
	}
}

// P19.1
func TestAllAndInner(t *testing.T) {
	img, f := example()
	is := func(what string, img [][]byte, f api.Big, places, blocks, inner []int) {
		t.Helper()
		p, b, e := All(img, f)
		if !slices.Equal(p, places) || !slices.Equal(b, blocks) || e != api.OK {
			t.Error(what, p, b, e)
		}
		if l, e := Inner(img, f); !slices.Equal(l, inner) || e != api.OK {
			t.Error(what, l, e)
		}
	}
	is("the example", img, f, examplePlaces, exampleBlocks, exampleInner)
	is("nothing", img, api.Big{}, nil, nil, nil)
	is("nothing of nothing", nil, api.Big{}, nil, nil, nil)
	is("double alone", img, api.Big{Double: 20}, examplePlaces[4:], exampleBlocks[4:], exampleInner[1:])
	clear(img[10])
	clear(img[21])
	is("two of them empty", img, f, []int{1, 5, 38 + 30*32 + 31}, []int{2, 1, 32}, exampleInner)
	img, _ = example()
	points(img, 20, map[int]byte{3: 30, 5: 5, 9: 29})
	for _, block := range []int{30, 5, 29} {
		clear(img[block])
	}
	is("in the order of slots", img, api.Big{Double: 20}, nil, nil, []int{20, 30, 5, 29})
}

// what a Put should be: the patches, one behind the other, and the file.
type wanted struct {
	l      []api.Item
	f      api.Big
	needed int
}

// item is one of these: a patch of one pointer in a block that was there, or, without deps that are named, of all of a new one.
func item(block, slot int, at byte, behind ...int) api.Item {
	return api.Item{Patch: api.Patch{Block: block, Off: slot, Data: string([]byte{at})}, Deps: behind}
}

func fresh(block, slot int, at byte) api.Item {
	b := make([]byte, api.BlockSize)
	b[slot] = at
	return api.Item{Patch: api.Patch{Block: block, Data: string(b)}}
}

// puts fails the test unless that is what Put and Patches do.
func puts(t *testing.T, what string, img [][]byte, f api.Big, k, block int, free []int, want wanted) {
	t.Helper()
	was := copied(img)
	l, e := Patches(img, f, k, block, free)
	if e != api.OK || !slices.EqualFunc(l, want.l, func(a, b api.Item) bool { return a.Patch == b.Patch && slices.Equal(a.Deps, b.Deps) }) {
		t.Error(what, "Patches", l, e, "not", want.l)
	}
	if !merge.Right(l) {
		t.Error(what, "not right", l)
	}
	behind := copied(img)
	for _, one := range want.l {
		behind[one.Patch.Block], _ = patch.Apply(behind[one.Patch.Block], one.Patch)
	}
	next, g, n, e := Put(img, f, k, block, free)
	if !same(next, behind) || g != want.f || n != want.needed || e != api.OK {
		t.Error(what, "Put", next, g, n, e)
	}
	if at, e := Get(next, g, k); at != block || e != api.OK || !Right(next, g) {
		t.Error(what, at, e)
	}
	if !same(img, was) {
		t.Error(what, "changed")
	}
}

// P19.2, P19.3
func TestPut(t *testing.T) {
	img := image(40)
	none := api.Big{}
	puts(t, "the first", img, none, 0, 39, nil, wanted{nil, api.Big{Direct: [6]int{39}}, 0})
	puts(t, "the sixth", img, none, 5, 1, []int{2, 3}, wanted{nil, api.Big{Direct: [6]int{5: 1}}, 0})
	puts(t, "a new indirect one", img, none, 6, 7, []int{9, 8, 10}, wanted{[]api.Item{fresh(9, 0, 7)}, api.Big{Indirect: 9}, 1})
	puts(t, "its last slot", img, none, 37, 7, []int{9}, wanted{[]api.Item{fresh(9, 31, 7)}, api.Big{Indirect: 9}, 1})
	puts(t, "two new ones", img, none, 38, 7, []int{9, 8, 10}, wanted{[]api.Item{fresh(9, 0, 8), fresh(8, 0, 7)}, api.Big{Double: 9}, 2})
	puts(t, "the last place", img, none, 1061, 7, []int{9, 39}, wanted{[]api.Item{fresh(9, 31, 39), fresh(39, 31, 7)}, api.Big{Double: 9}, 2})
	puts(t, "32 times 3 and 5", img, none, 38+96+5, 7, []int{1, 2}, wanted{[]api.Item{fresh(1, 3, 2), fresh(2, 5, 7)}, api.Big{Double: 1}, 2})
	img, f := example()
	direct := f
	direct.Direct[0] = 3
	puts(t, "a direct one more", img, f, 0, 3, nil, wanted{nil, direct, 0})
	puts(t, "an indirect one that is there", img, f, 7, 3, []int{4}, wanted{[]api.Item{item(10, 1, 3)}, f, 0})
	puts(t, "two that are there", img, f, 41, 3, []int{4}, wanted{[]api.Item{item(21, 3, 3)}, f, 0})
	puts(t, "a new one in one that is there", img, f, 38+32, 3, []int{4}, wanted{[]api.Item{fresh(4, 0, 3), item(20, 1, 4, 0)}, f, 1})
	puts(t, "beside the example's indirect", img, api.Big{Direct: f.Direct, Double: 20}, 6, 3, []int{4, 5}, wanted{[]api.Item{fresh(4, 0, 3)}, api.Big{Direct: f.Direct, Indirect: 4, Double: 20}, 1})
	puts(t, "beside the example's double", img, api.Big{Direct: f.Direct, Indirect: 10}, 38+64+2, 3, []int{4, 5}, wanted{[]api.Item{fresh(4, 2, 5), fresh(5, 2, 3)}, api.Big{Direct: f.Direct, Indirect: 10, Double: 4}, 2})
	clear(img[20])
	puts(t, "an empty double", img, f, 38, 3, []int{4}, wanted{[]api.Item{fresh(4, 0, 3), item(20, 0, 4, 0)}, f, 1})
}

// P19.2, P19.3: of several errors the one that is named first.
func TestPutErrors(t *testing.T) {
	img, f := example()
	was := copied(img)
	refused := func(what string, k, block int, free []int, want api.Errno) {
		t.Helper()
		next, g, n, e := Put(img, f, k, block, free)
		if next != nil || g != (api.Big{}) || n != 0 || e != want {
			t.Error(what, "Put", k, block, free, "answers", next, g, n, e, "not", want)
		}
		if l, e := Patches(img, f, k, block, free); l != nil || e != want {
			t.Error(what, "Patches", k, block, free, "answers", l, e, "not", want)
		}
		if !same(img, was) {
			t.Error("changed")
		}
	}
	for _, k := range far {
		refused("no place", k, 3, nil, api.ErrRange)
		refused("nor block", k, 2, []int{2, 2}, api.ErrRange)
	}
	for _, n := range append(far, 0, 40, 96) {
		refused("no block", 0, n, nil, api.ErrRange)
		refused("none that is free", 0, 3, []int{n}, api.ErrRange)
		refused("none behind others", 0, 3, []int{4, 2, 2, n}, api.ErrRange)
		refused("nor one that is taken", 1, n, []int{2, 2}, api.ErrRange)
	}
	for _, n := range slices.Concat(exampleBlocks, exampleInner) {
		refused("taken", 0, n, nil, api.ErrExist)
		refused("free and taken", 0, 3, []int{n}, api.ErrExist)
		refused("free and taken, of some", 38+32, 3, []int{4, 5, n}, api.ErrExist)
		refused("where another one lies", 1, n, nil, api.ErrExist)
		refused("and no room", 38+32, n, nil, api.ErrExist)
	}
	refused("free twice", 0, 3, []int{4, 5, 4}, api.ErrExist)
	refused("free and block", 0, 3, []int{4, 5, 3}, api.ErrExist)
	refused("free twice, and lies somewhere", 1, 3, []int{4, 4}, api.ErrExist)
	for _, k := range examplePlaces {
		refused("lies somewhere", k, 3, nil, api.ErrBusy)
		refused("lies somewhere", k, 3, []int{4, 5}, api.ErrBusy)
	}
	refused("one is needed", 38+32, 3, nil, api.ErrSpace)
	refused("one is needed", 38+32, 3, []int{}, api.ErrSpace)
	f = api.Big{}
	refused("one", 6, 3, nil, api.ErrSpace)
	refused("one", 37, 3, nil, api.ErrSpace)
	refused("two", 38, 3, nil, api.ErrSpace)
	refused("two", 1061, 3, []int{4}, api.ErrSpace)
	img, was = nil, nil
	refused("no block at all", 0, 1, nil, api.ErrRange)
	refused("no block at all", 0, 0, nil, api.ErrRange)
}

// P3: what is free, and what is behind it, stays as it is, though a block is needed behind it.
func TestFreeStays(t *testing.T) {
	img := image(40)
	free := []int{4, 5, 6, 7}
	for long := range free {
		for _, k := range []int{0, 6, 38} {
			Put(img, api.Big{}, k, 3, free[:long])
			Patches(img, api.Big{}, k, 3, free[:long])
			if !slices.Equal(free, []int{4, 5, 6, 7}) {
				t.Fatal(k, long, free)
			}
		}
	}
}

// cuts fails the test unless that is free behind a Cut, the file is that, and the image is as it was but for these bytes, that are 0.
func cuts(t *testing.T, img [][]byte, f api.Big, k int, free []int, want api.Big, zeros ...api.Addr) {
	t.Helper()
	was, behind := copied(img), copied(img)
	for _, a := range zeros {
		behind[a.Group][a.Block] = 0
	}
	next, g, l, e := Cut(img, f, k)
	if g != want || !slices.Equal(l, free) || e != api.OK {
		t.Error("Cut", k, "answers", g, l, e, "not", want, free)
	}
	if !same(next, behind) {
		t.Error("Cut", k, "answers another image", next)
	}
	if !same(img, was) {
		t.Error("changed")
	}
	if !Right(next, g) {
		t.Error("Cut", k, "is not right")
	}
}

// zero is a slot of a block.
func zero(block, slot int) api.Addr { return api.Addr{Group: block, Block: slot} }

// P19.3, P19.5
func TestCut(t *testing.T) {
	img, f := example()
	cuts(t, img, f, api.BigBlocks, nil, f)
	cuts(t, img, f, 1030, nil, f)
	last := []api.Addr{zero(22, 31), zero(20, 30)}
	cuts(t, img, f, 1029, []int{32, 22}, f, last...)
	cuts(t, img, f, 40, []int{32, 22}, f, last...)
	cuts(t, img, f, 39, []int{31, 32, 22}, f, append(last, zero(21, 1))...)
	double := append(last, zero(21, 1), zero(21, 0), zero(20, 0))
	g := f
	g.Double = 0
	cuts(t, img, f, 38, []int{39, 31, 32, 21, 22, 20}, g, double...)
	cuts(t, img, f, 37, []int{12, 39, 31, 32, 21, 22, 20}, g, append(double, zero(10, 31))...)
	cuts(t, img, f, 7, []int{12, 39, 31, 32, 21, 22, 20}, g, append(double, zero(10, 31))...)
	g.Indirect = 0
	all := append(double, zero(10, 31), zero(10, 0))
	cuts(t, img, f, 6, []int{11, 12, 39, 31, 32, 21, 22, 10, 20}, g, all...)
	g.Direct[5] = 0
	cuts(t, img, f, 5, []int{1, 11, 12, 39, 31, 32, 21, 22, 10, 20}, g, all...)
	cuts(t, img, f, 2, []int{1, 11, 12, 39, 31, 32, 21, 22, 10, 20}, g, all...)
	cuts(t, img, f, 1, []int{2, 1, 11, 12, 39, 31, 32, 21, 22, 10, 20}, api.Big{}, all...)
	cuts(t, img, f, 0, []int{2, 1, 11, 12, 39, 31, 32, 21, 22, 10, 20}, api.Big{}, all...)
	for _, k := range []int{0, 5, 38, api.BigBlocks} {
		cuts(t, img, api.Big{}, k, nil, api.Big{})
		cuts(t, nil, api.Big{}, k, nil, api.Big{})
	}
}

// P19.3: blocks of pointers that have none but 0 go, wherever they stand; those of Double by their slots.
func TestCutOfEmpty(t *testing.T) {
	img, f := example()
	clear(img[21])
	cuts(t, img, f, api.BigBlocks, []int{21}, f, zero(20, 0))
	clear(img[10])
	g := f
	g.Indirect = 0
	cuts(t, img, f, api.BigBlocks, []int{21, 10}, g, zero(20, 0))
	clear(img[22])
	g.Double = 0
	cuts(t, img, f, 39, []int{21, 22, 10, 20}, g, zero(20, 0), zero(20, 30))
	clear(img[20])
	cuts(t, img, f, 1000, []int{10, 20}, g)
	points(img, 20, map[int]byte{3: 30, 5: 5, 9: 29, 10: 28})
	for _, block := range []int{30, 5, 29} {
		clear(img[block])
	}
	points(img, 28, map[int]byte{4: 27})
	cuts(t, img, f, api.BigBlocks, []int{30, 5, 29, 10}, api.Big{Direct: f.Direct, Double: 20}, zero(20, 3), zero(20, 5), zero(20, 9))
}

// P19.3
func TestCutErrors(t *testing.T) {
	img, f := example()
	for _, k := range far {
		if k == api.BigBlocks {
			continue
		}
		if next, g, l, e := Cut(img, f, k); next != nil || g != (api.Big{}) || l != nil || e != api.ErrRange {
			t.Error(k, next, g, l, e)
		}
	}
}

// P3: what is answered is the caller's.
func TestHandedOver(t *testing.T) {
	img, f := example()
	was := copied(img)
	put, _, _, _ := Put(img, f, 0, 3, nil)
	cut, _, free, _ := Cut(img, f, 0)
	places, blocks, _ := All(img, f)
	inner, _ := Inner(img, f)
	for i := range img {
		clear(put[i])
		clear(cut[i])
	}
	for _, l := range [][]int{free, places, blocks, inner} {
		clear(l[:cap(l)])
	}
	l, _ := Patches(img, f, 38+32, 3, []int{4})
	l[1].Deps[0] = 9
	again, _ := Patches(img, f, 38+32, 3, []int{4})
	if !same(img, was) || again[1].Deps[0] != 0 {
		t.Error("changed")
	}
	if places, blocks, e := All(img, f); !slices.Equal(places, examplePlaces) || !slices.Equal(blocks, exampleBlocks) || e != api.OK {
		t.Error(places, blocks, e)
	}
	// Of an image whose blocks are one and the same list, too.
	one := make([]byte, api.BlockSize)
	put, _, _, _ = Put([][]byte{one, one, one, one}, api.Big{}, 6, 1, []int{2})
	if put[2][0] != 1 || put[3][0] != 0 || one[0] != 0 {
		t.Error(put, one)
	}
	put[0][5] = 7
	if put[1][5] != 0 {
		t.Error("two lists of one answer lie in one")
	}
}
