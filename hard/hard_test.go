package hard

import (
	"math"
	"slices"
	"strings"
	"testing"

	"selvedge/api"
	"selvedge/disk"
)

// wrong are numbers that no block has.
var wrong = []int{-1, -2, math.MinInt, math.MaxInt, 1 << 32, api.MaxBlocks, api.MaxBlocks + 1}

// p is an item: a patch, behind some.
func p(block, off int, data string, deps ...int) api.Item {
	return api.Item{Patch: api.Patch{Block: block, Off: off, Data: data}, Deps: deps}
}

// some are n sectors, all different.
func some(n int) []disk.Sector {
	l := make([]disk.Sector, n)
	for i := range l {
		for at := range l[i] {
			l[i][at] = byte(200 + i)
		}
	}
	return l
}

// over is an engine over blocks that are all different.
func over(t *testing.T, n int) *Engine {
	t.Helper()
	e := New(disk.Load(some(n)))
	if e == nil {
		t.Fatal("New", n)
	}
	return e
}

// many are n items of blocks from 0 on, each of a unit of its own.
func many(n, blocks int) []api.Item {
	l := make([]api.Item, n)
	for i := range l {
		l[i] = p(i%blocks, i/blocks%api.BlockSize, string(rune('a'+i%26)))
		if i > 0 {
			l[i].Deps = []int{-i}
		}
	}
	return l
}

// adds fails the test unless the patches are added, the first one with that number.
func adds(t *testing.T, e *Engine, first int, l ...api.Item) {
	t.Helper()
	if n, r := e.Add(l...); n != first || r != api.OK {
		t.Fatal("Add", n, r, "not", first)
	}
}

// refused fails the test unless the patches can't be added.
func refused(t *testing.T, e *Engine, want api.Errno, l ...api.Item) {
	t.Helper()
	if n, r := e.Add(l...); n != 0 || r != want {
		t.Error("Add of", len(l), "answers", n, r, "not", want)
	}
}

// writes fails the test unless Write answers so.
func writes(t *testing.T, e *Engine, i, n int, want api.Errno) {
	t.Helper()
	if got, r := e.Write(i); got != n || r != want {
		t.Error("Write", i, "answers", got, r, "not", n, want)
	}
}

// does fails the test unless r is want.
func does(t *testing.T, what string, r, want api.Errno) {
	t.Helper()
	if r != want {
		t.Error(what, "has", r, "not", want)
	}
}

// numbered fails the test unless the two are the same.
func numbered(t *testing.T, what string, l []int, want ...int) {
	t.Helper()
	if !slices.Equal(l, want) {
		t.Error(what, l, "not", want)
	}
}

// units fails the test unless those wait, each with just these patches, its number first.
func units(t *testing.T, e *Engine, want ...[]int) {
	t.Helper()
	var firsts, all []int
	for _, u := range want {
		numbered(t, "Of", e.Of(u[0]), u...)
		firsts = append(firsts, u[0])
		all = append(all, u...)
	}
	slices.Sort(all)
	numbered(t, "Units", e.Units(), firsts...)
	numbered(t, "Waiting", e.Waiting(), all...)
}

// counts fails the test unless Counts answers so.
func counts(t *testing.T, e *Engine, added, joined, idle int) {
	t.Helper()
	if a, j, i := e.Counts(); a != added || j != joined || i != idle {
		t.Error("Counts", a, j, i, "not", added, joined, idle)
	}
	if e.Next() != added {
		t.Error("Next", e.Next(), "not", added)
	}
}

// text is a block of bytes v, with data from off on, and again.
func text(v byte, l ...any) string {
	b := []byte(strings.Repeat(string([]byte{v}), api.BlockSize))
	for at := 0; at < len(l); at += 2 {
		copy(b[l[at].(int):], l[at+1].(string))
	}
	return string(b)
}

// shows fails the test unless Block is that.
func shows(t *testing.T, e *Engine, i int, want string) {
	t.Helper()
	if b, r := e.Block(i); r != api.OK || string(b) != want {
		t.Errorf("Block %d: %q, %d, not %q", i, b, r, want)
	}
}

// leaves fails the test unless a Crash that picks so leaves that of a block.
func leaves(t *testing.T, e *Engine, pick []int, i int, want string) {
	t.Helper()
	d := e.Crash(pick)
	if s, r := d.Lasting(i); r != api.OK || string(s[:]) != want {
		t.Errorf("Crash %v leaves of %d: %q, %d, not %q", pick, i, s[:], r, want)
	}
	if s, _ := d.Read(i); string(s[:]) != want || d.Versions(i) != 0 {
		t.Errorf("Crash %v: versions of %d", pick, i)
	}
}

// told is all that an engine tells, and what its forks would tell behind some calls.
type told struct {
	numbers [][]int
	bytes   []string
}

func toldBy(e *Engine) told {
	added, joined, idle := e.Counts()
	s := told{numbers: [][]int{{e.Next(), e.Size(), added, joined, idle}, e.Waiting(), e.Units(), e.Dirty()}}
	for _, u := range e.Units() {
		s.numbers = append(s.numbers, e.Of(u))
	}
	for i := range e.Size() {
		b, _ := e.Block(i)
		s.bytes = append(s.bytes, string(b))
		f := e.Fork()
		n, r := f.Write(i)
		f.Flush()
		s.numbers = append(s.numbers, []int{n, int(r)}, f.Waiting())
		f = e.Fork()
		f.Add(p(i, 3, "joins?"))
		s.numbers = append(s.numbers, f.Units())
	}
	for v := range 4 {
		d := e.Crash(slices.Repeat([]int{v}, e.Size()))
		for i := range e.Size() {
			b, _ := d.Lasting(i)
			s.bytes = append(s.bytes, string(b[:]))
			s.numbers = append(s.numbers, []int{int(d.Write(i, b))})
		}
	}
	f := e.Fork()
	f.Flush()
	s.numbers = append(s.numbers, f.Waiting())
	return s
}

func (s told) same(o told) bool {
	return slices.EqualFunc(s.numbers, o.numbers, slices.Equal[[]int]) && slices.Equal(s.bytes, o.bytes)
}

// unchanged fails the test if the call changes something.
func unchanged(t *testing.T, e *Engine, call func()) {
	t.Helper()
	before := toldBy(e)
	call()
	if after := toldBy(e); !before.same(after) {
		t.Error("changed", before.numbers, after.numbers)
	}
}

// P22.1, P7.1: the disk's versions last, its bad blocks are bad; the disk itself stays as it is, and what becomes of it changes nothing.
func TestNew(t *testing.T) {
	if New(nil) != nil {
		t.Error("of nil")
	}
	d := disk.Load(some(3))
	d.Write(1, disk.Sector{7})
	d.Write(1, disk.Sector{8})
	d.Spoil(2, true)
	e := New(d)
	if e == nil || e.Size() != 3 {
		t.Fatal(e)
	}
	units(t, e)
	counts(t, e, 0, 0, 0)
	for i, want := range []string{text(200), string([]byte{8}) + text(0)[1:], text(202)} {
		shows(t, e, i, want)
		leaves(t, e, []int{1, 1, 1}, i, want)
		writes(t, e, i, 0, api.OK)
	}
	unchanged(t, e, func() {
		d.Write(0, disk.Sector{1})
		d.Spoil(1, true)
		d.Flush()
	})
	adds(t, e, 0, p(0, 0, "a"), p(1, 0, "a"), p(2, 0, "a"))
	writes(t, e, 0, 1, api.OK)
	writes(t, e, 1, 1, api.OK)
	writes(t, e, 2, 0, api.ErrIO)
	if s, _ := d.Lasting(0); d.Versions(0) != 0 || s != (disk.Sector{1}) {
		t.Error("the disk changed")
	}
	for _, n := range []int{1, api.MaxBlocks} {
		if e := New(disk.New(n)); e.Size() != n {
			t.Error(n, e.Size())
		}
	}
}

// P22.1: patches of one block that come behind nothing else are one unit, by one call or by several.
func TestJoins(t *testing.T) {
	e := over(t, 3)
	adds(t, e, 0, p(0, 0, "a"), p(0, 5, "b"), p(1, 0, "c"))
	units(t, e, []int{0, 1}, []int{2})
	counts(t, e, 3, 1, 0)
	adds(t, e, 3, p(0, 5, "d"), p(1, 4, "e", 2), p(0, 9, "f", 1, 3-3))
	units(t, e, []int{0, 1, 3, 5}, []int{2, 4})
	counts(t, e, 6, 4, 0)
	numbered(t, "Dirty", e.Dirty(), 0, 1)
	shows(t, e, 0, text(200, 0, "a", 5, "d", 9, "f"))
	writes(t, e, 0, 4, api.OK)
	writes(t, e, 0, 0, api.OK)
	leaves(t, e, []int{1}, 0, text(200, 0, "a", 5, "d", 9, "f"))
	leaves(t, e, []int{2}, 0, text(200))
	e.Flush()
	units(t, e, []int{2, 4})
	counts(t, e, 6, 4, 0)
}

// P22.1: who comes behind one of another block that no patch of the unit comes behind does not join it.
func TestOfItsOwn(t *testing.T) {
	e := over(t, 3)
	adds(t, e, 0, p(0, 0, "a"), p(1, 0, "b"), p(0, 1, "c", -2))
	units(t, e, []int{0}, []int{1}, []int{2})
	counts(t, e, 3, 0, 0)
	// Those behind join the greatest unit of the block alone, though they come behind nothing.
	adds(t, e, 3, p(0, 2, "d"), p(0, 3, "e", 1), p(0, 4, "f", 2))
	units(t, e, []int{0}, []int{1}, []int{2, 3, 4, 5})
	// The patch 0 is no patch of the unit 2, and none of these comes behind it.
	adds(t, e, 6, p(0, 5, "g", 0), p(0, 6, "h"))
	units(t, e, []int{0}, []int{1}, []int{2, 3, 4, 5}, []int{6, 7})
	adds(t, e, 8, p(0, 0, "A"), p(0, 1, "C"), p(0, 7, "i", 2))
	units(t, e, []int{0}, []int{1}, []int{2, 3, 4, 5}, []int{6, 7, 8}, []int{9, 10})
	counts(t, e, 11, 6, 0)
	writes(t, e, 0, 4, api.OK)
	leaves(t, e, []int{1}, 0, text(200, 0, "A", 5, "gh"))
	e.Flush()
	units(t, e, []int{1}, []int{2, 3, 4, 5}, []int{9, 10})
	writes(t, e, 0, 0, api.OK)
	writes(t, e, 1, 1, api.OK)
	e.Flush()
	writes(t, e, 0, 6, api.OK)
	leaves(t, e, []int{1}, 0, text(200, 0, "ACdefghi"))
}

// P22.1: what a patch of the unit comes behind may be come behind, at once or over some others, and over those that joined.
func TestJoinsBehindTheSame(t *testing.T) {
	e := over(t, 5)
	adds(t, e, 0, p(1, 0, "a"), p(2, 0, "b", -1), p(3, 0, "c", -2), p(0, 0, "d", -3))
	adds(t, e, 4, p(0, 1, "at once", 2), p(0, 9, "over one", 1), p(0, 18, "over two", 0), p(0, 28, "all", 3, 2, 1, 0))
	units(t, e, []int{0}, []int{1}, []int{2}, []int{3, 4, 5, 6, 7})
	adds(t, e, 8, p(4, 0, "x"), p(0, 31, "y", -1))
	units(t, e, []int{0}, []int{1}, []int{2}, []int{3, 4, 5, 6, 7}, []int{8}, []int{9})
	// Block 1's other patch is none that one of the unit comes behind, though it lasts together with one that is.
	e = over(t, 3)
	adds(t, e, 0, p(1, 0, "a"), p(1, 1, "b"), p(0, 0, "c", -1), p(0, 1, "d", -2))
	units(t, e, []int{0, 1}, []int{2}, []int{3})
	e = over(t, 3)
	adds(t, e, 0, p(1, 0, "a"), p(1, 1, "b", -1), p(0, 0, "c", -2), p(0, 1, "d", -1))
	units(t, e, []int{0, 1}, []int{2, 3})
	// Who joined a unit is of it: others join it behind that.
	e = over(t, 3)
	adds(t, e, 0, p(1, 0, "a"), p(0, 0, "b", -1), p(2, 0, "c"), p(0, 1, "d", -1), p(0, 2, "e", -4), p(0, 3, "f", -3))
	units(t, e, []int{0}, []int{1, 3, 4}, []int{2}, []int{5})
}

// P22.1: of patches that overlap the later one comes behind, and so joins or not.
func TestJoinsOfOverlaps(t *testing.T) {
	e := over(t, 3)
	adds(t, e, 0, p(0, 0, "abcd"), p(1, 0, "x", -1), p(0, 8, "efgh", -2))
	units(t, e, []int{0}, []int{1}, []int{2})
	adds(t, e, 3, p(0, 2, "OVERLAPS"))
	units(t, e, []int{0}, []int{1}, []int{2, 3})
	e = over(t, 3)
	adds(t, e, 0, p(0, 0, "abcd"), p(1, 0, "x"), p(0, 8, "efgh", -2))
	adds(t, e, 3, p(0, 2, "OVERLAPS"))
	units(t, e, []int{0}, []int{1}, []int{2}, []int{3})
	shows(t, e, 0, text(200, 0, "abOVERLAPSgh"))
	writes(t, e, 0, 1, api.OK)
	leaves(t, e, []int{1}, 0, text(200, 0, "abcd"))
	writes(t, e, 1, 1, api.OK)
	e.Flush()
	writes(t, e, 0, 2, api.OK)
	leaves(t, e, []int{1}, 0, text(200, 0, "abOVERLAPSgh"))
}

// P22.1: of what lasts nothing is to be come behind.
func TestJoinsBehindWhatLasts(t *testing.T) {
	e := over(t, 2)
	adds(t, e, 0, p(1, 0, "a"))
	e.Sync()
	adds(t, e, 1, p(0, 0, "b"), p(0, 1, "c", 0))
	units(t, e, []int{1, 2})
	counts(t, e, 3, 1, 0)
}

// P22.1: a unit that was written is joined by none until it lasts; one that could not be written is.
func TestJoinsUntilWritten(t *testing.T) {
	e := over(t, 2)
	adds(t, e, 0, p(0, 0, "a"), p(0, 1, "b"))
	writes(t, e, 0, 2, api.OK)
	adds(t, e, 2, p(0, 2, "c"), p(0, 0, "d", 0))
	units(t, e, []int{0, 1}, []int{2}, []int{3})
	writes(t, e, 0, 4, api.OK)
	adds(t, e, 4, p(0, 4, "e"))
	units(t, e, []int{0, 1}, []int{2}, []int{3}, []int{4})
	leaves(t, e, []int{1}, 0, text(200, 0, "ab"))
	leaves(t, e, []int{2}, 0, text(200, 0, "dbc"))
	e.Flush()
	units(t, e, []int{4})
	adds(t, e, 5, p(0, 5, "f"))
	units(t, e, []int{4, 5})
	counts(t, e, 6, 2, 0)

	// Block 1's unit waits for block 0's: to Write the block is not to write the unit.
	adds(t, e, 6, p(1, 0, "g", 5))
	writes(t, e, 1, 0, api.OK)
	adds(t, e, 7, p(1, 1, "h"))
	units(t, e, []int{4, 5}, []int{6, 7})

	e.Spoil(0, true)
	writes(t, e, 0, 0, api.ErrIO)
	adds(t, e, 8, p(0, 6, "i"))
	units(t, e, []int{4, 5, 8}, []int{6, 7})
}

// P22.1: the greatest unit of a block is another one again, when that lasts ahead of a lesser one.
func TestJoinsALesserUnit(t *testing.T) {
	e := over(t, 2)
	adds(t, e, 0, p(1, 0, "a"), p(0, 0, "b", -1))
	adds(t, e, 2, p(1, 1, "c"))
	writes(t, e, 1, 2, api.OK)
	adds(t, e, 3, p(1, 2, "d", 1), p(1, 3, "e"))
	units(t, e, []int{0, 2}, []int{1}, []int{3, 4})
	e.Flush()
	units(t, e, []int{1}, []int{3, 4})

	e = over(t, 3)
	adds(t, e, 0, p(1, 0, "a"), p(2, 0, "b"), p(0, 0, "c", -1), p(0, 1, "d", -2))
	units(t, e, []int{0}, []int{1}, []int{2}, []int{3})
	writes(t, e, 2, 1, api.OK)
	e.Flush()
	writes(t, e, 0, 1, api.OK)
	e.Flush()
	units(t, e, []int{0}, []int{2})
	adds(t, e, 4, p(0, 2, "e"), p(0, 1, "f", 3))
	units(t, e, []int{0}, []int{2, 4, 5})
	shows(t, e, 0, text(200, 0, "cfe"))
	leaves(t, e, nil, 0, text(200, 1, "d"))
}

// P22.1: a patch that changes no byte, and comes behind nothing that waits, waits never.
func TestIdle(t *testing.T) {
	e := over(t, 3)
	adds(t, e, 0, p(0, 0, text(200)), p(1, 31, text(201)[:1]), p(0, 4, text(200)[:3], -1, -2))
	units(t, e)
	counts(t, e, 3, 0, 3)
	numbered(t, "Dirty", e.Dirty())
	writes(t, e, 0, 0, api.OK)
	leaves(t, e, []int{1, 1}, 0, text(200))
	does(t, "Sync", e.Sync(), api.OK)

	// One that changes a byte is not.
	adds(t, e, 3, p(0, 4, text(200)[:3]+"x"), p(0, 0, text(200)[:4]))
	units(t, e, []int{3})
	counts(t, e, 5, 0, 4)
	// One that overlaps what waits comes behind it, though Block stays; one that changes what waits back, too.
	adds(t, e, 5, p(0, 7, "x"), p(0, 7, text(200)[:1]))
	units(t, e, []int{3, 5, 6})
	counts(t, e, 7, 2, 4)
	shows(t, e, 0, text(200))
	// One that comes behind what waits waits, on its block or another one.
	adds(t, e, 7, p(1, 0, text(201)[:1], 3), p(0, 20, text(200)[:1], 6), p(2, 0, text(202)[:1], 2, 4), p(2, 1, text(202)[:1], -3, 1))
	units(t, e, []int{3, 5, 6, 8}, []int{7})
	counts(t, e, 11, 3, 6)
	numbered(t, "Of an idle one", e.Of(9))
	does(t, "Sync", e.Sync(), api.OK)
	// What waited lasts: the same are idle now.
	adds(t, e, 11, p(1, 0, text(201)[:1], 3, 7), p(0, 7, text(200)[:1], 0))
	units(t, e)
	counts(t, e, 13, 3, 8)
}

// P22.1: what was written, and does not last, waits still: who overlaps it is not idle.
func TestIdleOfWhatWasWritten(t *testing.T) {
	e := over(t, 2)
	adds(t, e, 0, p(0, 0, "ab"))
	writes(t, e, 0, 1, api.OK)
	adds(t, e, 1, p(0, 0, "ab"), p(1, 0, text(201), 0), p(0, 2, text(200)[:2]))
	units(t, e, []int{0}, []int{1}, []int{2})
	counts(t, e, 4, 0, 1)
	e.Flush()
	adds(t, e, 4, p(0, 1, "b"))
	units(t, e, []int{1, 4}, []int{2})
	counts(t, e, 5, 1, 1)
}

// P22.1, P7.1: wrong patches have ErrForm, ahead of all else; nothing of the call is added.
func TestAddOfWrongPatches(t *testing.T) {
	long := strings.Repeat("x", api.BlockSize+1)
	for _, n := range []int{1, 5, api.MaxBlocks} {
		e := over(t, n)
		adds(t, e, 0, p(0, 0, "a"))
		unchanged(t, e, func() {
			for _, bad := range []api.Item{
				{}, p(0, 0, ""), p(0, 31, "ab"), p(0, 32, "a"), p(0, -1, "a"), p(0, 0, long), p(-1, 0, "a"), p(n, 0, "a"), p(n+1, 0, "a"), p(api.MaxBlocks, 0, "a"),
				p(math.MinInt, 0, "a"), p(math.MaxInt, 0, "a"), p(0, math.MaxInt, "a"), p(0, math.MinInt, "a"), p(n, 0, "a", 5), p(-1, 0, "a", -1),
			} {
				for _, l := range [][]api.Item{{bad}, {p(0, 0, "b"), bad}, {bad, p(0, 0, "b")}, {p(0, 0, "b", 99), bad}, {p(0, 0, "b", -1), bad}, append(many(api.MaxPending+1, n), bad)} {
					refused(t, e, api.ErrForm, l...)
				}
			}
		})
		adds(t, e, 1, p(n-1, 31, "a"), p(n-1, 0, long[1:]))
	}
}

// P22.1, P7.1: Deps that name no patch that may be named; of idle ones, too.
func TestAddOfWrongDeps(t *testing.T) {
	e := over(t, 4)
	adds(t, e, 0, p(0, 0, "a"), p(1, 0, text(201)), p(2, 0, "c"))
	writes(t, e, 0, 1, api.OK)
	e.Flush()
	unchanged(t, e, func() {
		for _, d := range []int{3, 4, 5, 200, math.MaxInt, -1, -2, -3, -4, -200, math.MinInt, math.MinInt + 1} {
			refused(t, e, api.ErrRange, p(3, 0, "x", d))
			refused(t, e, api.ErrRange, p(3, 0, text(203), d))
			refused(t, e, api.ErrRange, p(3, 0, "x", 0, 1, 2, d, 0))
		}
		refused(t, e, api.ErrRange, append(many(api.MaxPending+1, 4), p(3, 0, "x", math.MaxInt))...)
		refused(t, e, api.ErrRange, append(many(api.MaxPending+1, 4), p(3, 0, "x", -api.MaxPending-2))...)
		// Of three in a call each may name those ahead of it, by their numbers below 0 alone.
		for at := range 3 {
			for d := -5; d < 8; d++ {
				l := []api.Item{p(3, 0, "x"), p(3, 1, text(203)[:1]), p(3, 2, "z")}
				l[at].Deps = []int{d}
				if d >= 3 || d < -at {
					refused(t, e, api.ErrRange, l...)
				} else {
					adds(t, e.Fork(), 3, l...)
				}
			}
		}
	})
}

// P22.1: MaxPending wait, in however many units; of a call idle ones are counted ahead, behind it they are not.
func TestAddOfFull(t *testing.T) {
	for _, ahead := range []int{0, 1, 100, api.MaxPending - 1, api.MaxPending} {
		e := over(t, 7)
		adds(t, e, 0, many(ahead, 6)...)
		idle := slices.Repeat([]api.Item{p(6, 0, text(206))}, api.MaxPending+1)
		unchanged(t, e, func() {
			for _, n := range []int{api.MaxPending + 1 - ahead, api.MaxPending + 2 - ahead, api.MaxPending + 1, 5000} {
				refused(t, e, api.ErrFull, many(n, 6)...)
			}
			refused(t, e, api.ErrFull, idle[ahead:]...)
			refused(t, e, api.ErrFull, idle...)
		})
		adds(t, e, ahead, idle[ahead+1:]...)
		counts(t, e, api.MaxPending, 0, api.MaxPending-ahead)
		adds(t, e, api.MaxPending, many(api.MaxPending-ahead, 6)...)
		if len(e.Waiting()) != api.MaxPending {
			t.Error(len(e.Waiting()))
		}
		unchanged(t, e, func() {
			adds(t, e, e.Next())
			refused(t, e, api.ErrFull, p(0, 0, "a"))
			refused(t, e, api.ErrFull, idle[0])
		})
	}
}

// P22.1: a unit is ready with all that it is of.
func TestReadyUnits(t *testing.T) {
	e := over(t, 3)
	// The unit 1 may not be written, as one of its patches comes behind block 0's; nor may the unit 4, behind it.
	adds(t, e, 0, p(0, 0, "a"), p(1, 0, "b", -1), p(1, 4, "c"), p(1, 0, "d"), p(2, 0, "e", -4), p(1, 9, "f"))
	units(t, e, []int{0}, []int{1, 2, 3, 5}, []int{4})
	for _, i := range []int{1, 2} {
		writes(t, e, i, 0, api.OK)
	}
	writes(t, e, 0, 1, api.OK)
	for _, i := range []int{1, 2} {
		writes(t, e, i, 0, api.OK)
	}
	e.Flush()
	writes(t, e, 2, 0, api.OK)
	writes(t, e, 1, 4, api.OK)
	leaves(t, e, []int{1}, 1, text(201, 0, "d", 4, "c", 9, "f"))
	e.Flush()
	writes(t, e, 2, 1, api.OK)
}

// P22.1: behind the first patch of a unit is behind the whole of it.
func TestBehindAUnit(t *testing.T) {
	e := over(t, 3)
	adds(t, e, 0, p(1, 0, "a"), p(0, 0, "b", -1), p(0, 1, "c"), p(0, 2, "d", -3))
	units(t, e, []int{0}, []int{1, 2, 3})
	// 2 itself comes behind nothing; who comes behind it waits for the unit.
	adds(t, e, 4, p(2, 0, "e", 2))
	writes(t, e, 2, 0, api.OK)
	writes(t, e, 0, 0, api.OK)
	writes(t, e, 1, 1, api.OK)
	e.Flush()
	writes(t, e, 2, 0, api.OK)
	writes(t, e, 0, 3, api.OK)
	e.Flush()
	writes(t, e, 2, 1, api.OK)
}

// P22.1, P7.2: a block is written again if there is more to write, or if there was a Flush.
func TestWriteTwice(t *testing.T) {
	e := over(t, 2)
	writes(t, e, 0, 0, api.OK)
	adds(t, e, 0, p(0, 0, "a"), p(0, 4, "b"))
	writes(t, e, 1, 0, api.OK)
	writes(t, e, 0, 2, api.OK)
	writes(t, e, 0, 0, api.OK)
	adds(t, e, 2, p(0, 8, text(200)[:2]))
	writes(t, e, 0, 0, api.OK)
	adds(t, e, 3, p(0, 0, "c"), p(1, 0, "d"), p(0, 9, "e", -2))
	units(t, e, []int{0, 1}, []int{3}, []int{4}, []int{5})
	writes(t, e, 0, 3, api.OK)
	writes(t, e, 0, 0, api.OK)
	leaves(t, e, []int{1}, 0, text(200, 0, "a", 4, "b"))
	leaves(t, e, []int{2}, 0, text(200, 0, "c", 4, "b"))
	leaves(t, e, []int{3}, 0, text(200))
	does(t, "Flush", e.Flush(), api.OK)
	units(t, e, []int{4}, []int{5})
	leaves(t, e, []int{1}, 0, text(200, 0, "c", 4, "b"))
	writes(t, e, 0, 0, api.OK)
	writes(t, e, 1, 1, api.OK)
	does(t, "Flush", e.Flush(), api.OK)
	does(t, "Flush", e.Flush(), api.OK)
	writes(t, e, 0, 1, api.OK)
	for _, i := range append([]int{2, 3}, wrong...) {
		writes(t, e, i, 0, api.ErrRange)
		if b, r := e.Block(i); len(b) != 0 || r != api.ErrRange {
			t.Error(i, b, r)
		}
	}
}

// P22.1, P7.2, P7.3: a bad block is not written; what was written of it ahead lasts.
func TestSpoil(t *testing.T) {
	e := over(t, 3)
	adds(t, e, 0, p(0, 0, "a"), p(0, 1, "b"), p(1, 0, "c", -1))
	does(t, "Spoil", e.Spoil(0, true), api.OK)
	unchanged(t, e, func() {
		writes(t, e, 0, 0, api.ErrIO)
		writes(t, e, 0, 0, api.ErrIO)
		writes(t, e, 1, 0, api.OK)
		does(t, "Flush", e.Flush(), api.OK)
		does(t, "Sync", e.Sync(), api.ErrIO)
	})
	does(t, "Spoil", e.Spoil(0, false), api.OK)
	writes(t, e, 0, 2, api.OK)
	does(t, "Spoil", e.Spoil(0, true), api.OK)
	writes(t, e, 0, 0, api.OK) // the same as at its last Write
	adds(t, e, 3, p(0, 9, "d"))
	writes(t, e, 0, 0, api.ErrIO)
	does(t, "Flush", e.Flush(), api.OK)
	units(t, e, []int{2}, []int{3})
	leaves(t, e, nil, 0, text(200, 0, "ab"))
	does(t, "Sync lets last what can", e.Sync(), api.ErrIO)
	units(t, e, []int{3})
	does(t, "Spoil", e.Spoil(0, false), api.OK)
	does(t, "Sync", e.Sync(), api.OK)
	e.Spoil(2, true)
	does(t, "Sync of nothing, a block is bad", e.Sync(), api.OK)
	for _, i := range append([]int{3, 4}, wrong...) {
		does(t, "Spoil", e.Spoil(i, true), api.ErrRange)
		does(t, "Spoil", e.Spoil(i, false), api.ErrRange)
	}
}

// P22.1, P7.3: forth and back between blocks, each patch a unit.
func TestSync(t *testing.T) {
	e := over(t, 4)
	does(t, "Sync of nothing", e.Sync(), api.OK)
	l := many(api.MaxPending, 4)
	for k := range l {
		l[k].Patch.Block = 3 - k%4
	}
	adds(t, e, 0, l...)
	counts(t, e, api.MaxPending, 0, 0)
	var want []string
	for i := range 4 {
		b, _ := e.Block(i)
		want = append(want, string(b))
	}
	does(t, "Sync", e.Sync(), api.OK)
	units(t, e)
	for i := range 4 {
		shows(t, e, i, want[i])
		leaves(t, e, []int{1, 1, 1, 1}, i, want[i])
		writes(t, e, i, 0, api.OK)
	}
}

// P22.1, P7.3: a Crash picks of the blocks that were written, rising; the engine goes on as if there was none.
func TestCrash(t *testing.T) {
	e := over(t, 4)
	adds(t, e, 0, p(3, 0, "a"), p(3, 1, "b"), p(1, 0, "c"))
	writes(t, e, 3, 2, api.OK)
	writes(t, e, 1, 1, api.OK)
	adds(t, e, 3, p(3, 1, "x"))
	writes(t, e, 3, 3, api.OK)
	e.Spoil(2, true)
	for _, c := range []struct {
		pick []int
		one  string
		last string
	}{
		{nil, text(201), text(203)}, {[]int{0, 0}, text(201), text(203)}, {[]int{1}, text(201, 0, "c"), text(203)}, {[]int{1, 1}, text(201, 0, "c"), text(203, 0, "ab")},
		{[]int{0, 2}, text(201), text(203, 0, "ax")}, {[]int{2, 1, 1, 1}, text(201), text(203, 0, "ab")}, {[]int{-1, 3}, text(201), text(203)}, {[]int{math.MaxInt, math.MinInt}, text(201), text(203)},
	} {
		pick := append(slices.Clone(c.pick), 9, 9)[:len(c.pick)]
		unchanged(t, e, func() {
			d := e.Crash(pick)
			if d.Size() != 4 || d.Write(2, disk.Sector{}) != api.ErrIO || d.Write(3, disk.Sector{}) != api.OK || d.Flush() != api.OK || d.Spoil(0, true) != api.OK {
				t.Error("the disk that is left")
			}
		})
		if !slices.Equal(pick, c.pick) || pick[:len(pick)+2][len(pick)] != 9 {
			t.Error("changed", c.pick, pick)
		}
		leaves(t, e, c.pick, 1, c.one)
		leaves(t, e, c.pick, 3, c.last)
	}
}

// P22.2
func TestOf(t *testing.T) {
	e := over(t, 2)
	adds(t, e, 0, p(0, 0, "a"), p(1, 0, "b"), p(0, 1, "c"), p(1, 1, text(201)[:1]))
	numbered(t, "Of", e.Of(0), 0, 2)
	numbered(t, "Of", e.Of(1), 1)
	for _, n := range append([]int{2, 3, 4, 5}, wrong...) {
		numbered(t, "Of no unit", e.Of(n))
	}
	writes(t, e, 0, 2, api.OK)
	numbered(t, "Of what was written", e.Of(0), 0, 2)
	e.Flush()
	numbered(t, "Of what lasts", e.Of(0))
}

// P3 of the rules: what is handed in stays, and is not kept; what is answered is the caller's.
func TestHandedInAndAnswered(t *testing.T) {
	e := over(t, 3)
	adds(t, e, 0, p(0, 0, "a"))
	deps := []int{0, -1, 77}
	l := []api.Item{p(1, 0, "b"), p(1, 1, "c"), p(0, 9, "z")}
	l[0].Deps, l[1].Deps = []int{0}, deps[:2]
	adds(t, e, 1, l[:2]...)
	if !slices.Equal(deps, []int{0, -1, 77}) || l[2].Patch != p(0, 9, "z").Patch || l[1].Patch != p(1, 1, "c").Patch {
		t.Error("changed", deps, l)
	}
	unchanged(t, e, func() {
		deps[0], deps[1] = 50, 60
		l[0], l[1] = p(0, 0, "y"), p(0, 1, "y")
		for range 2 {
			b, _ := e.Block(0)
			b[0], b[31] = 1, 2
			for _, l := range [][]int{e.Waiting(), e.Units(), e.Of(1), e.Dirty()} {
				l[0] = 99
				_ = append(l[:1], 98)
				_ = append(l, 98)
			}
		}
	})
	units(t, e, []int{0}, []int{1, 2})
}

// P4 of the rules
func TestFork(t *testing.T) {
	e := over(t, 3)
	adds(t, e, 0, p(0, 0, "a"), p(1, 0, "b", -1), p(2, 0, "c"), p(0, 4, "d"), p(1, 5, text(201)[:1]))
	writes(t, e, 2, 1, api.OK)
	e.Spoil(1, true)
	f := e.Fork()
	if f == nil || f == e || !toldBy(f).same(toldBy(e)) {
		t.Fatal("not the same")
	}
	for _, pair := range [][2]*Engine{{e, f}, {f.Fork(), e}, {e, e.Fork()}, {f, f.Fork()}} {
		one, other := pair[0].Fork(), pair[1]
		before := toldBy(other)
		for _, change := range []func(){
			func() { one.Add(p(0, 8, "x"), p(1, 8, "y", 0, -1)) }, func() { one.Write(0) }, func() { one.Add(p(2, 0, "z")) }, func() { one.Write(2) }, func() { one.Add(p(1, 9, text(201)[:1])) },
			func() { one.Fork().Flush() }, func() { one.Flush() }, func() { one.Spoil(0, true) }, func() { one.Spoil(1, false) }, func() { one.Crash([]int{1, 1}) },
			func() { one.Sync() }, func() { one.Add(p(1, 0, "w")) }, func() { one.Sync() },
		} {
			change()
			if !before.same(toldBy(other)) {
				t.Error("what became of the one changed the other one")
			}
		}
	}
	// Forks whose units are joined have each its own.
	for n := range 9 {
		e := over(t, 1)
		for k := range n {
			adds(t, e, k, p(0, k, "a"))
		}
		a, b := e.Fork(), e.Fork()
		for k, x := range []*Engine{a, b, e} {
			adds(t, x, n, p(0, 20+k, "A"))
		}
		for k, x := range []*Engine{a, b, e} {
			writes(t, x, 0, n+1, api.OK)
			leaves(t, x, []int{1}, 0, text(200, 0, strings.Repeat("a", n), 20+k, "A"))
		}
	}
}

// P1 of the rules
func TestNil(t *testing.T) {
	var e *Engine
	for _, i := range append([]int{0, 1}, wrong...) {
		refused(t, e, api.ErrNil, p(i, 0, "a"))
		if b, r := e.Block(i); len(b) != 0 || r != api.ErrNil {
			t.Error("Block", b, r)
		}
		writes(t, e, i, 0, api.ErrNil)
		does(t, "Spoil", e.Spoil(i, true), api.ErrNil)
		numbered(t, "Of", e.Of(i))
		if e.Crash([]int{i}) != nil {
			t.Error("Crash")
		}
	}
	refused(t, e, api.ErrNil)
	does(t, "Flush", e.Flush(), api.ErrNil)
	does(t, "Sync", e.Sync(), api.ErrNil)
	units(t, e)
	counts(t, e, 0, 0, 0)
	numbered(t, "Dirty", e.Dirty())
	if e.Crash(nil) != nil || e.Size() != 0 || e.Fork() != nil {
		t.Error(e.Size())
	}
}

// The chapter's example: by one call, and by three, apart and over each other.
func TestExample(t *testing.T) {
	for off := range 3 {
		for _, calls := range []int{1, 3} {
			e := New(disk.New(2))
			l := []api.Item{p(1, 0, "ab"), p(1, off, "cd"), p(1, 2*off, "ef")}
			for k := range calls {
				adds(t, e, k, l[k*3/calls:(k+1)*3/calls]...)
			}
			units(t, e, []int{0, 1, 2})
			counts(t, e, 3, 2, 0)
			writes(t, e, 1, 3, api.OK)
			writes(t, e, 1, 0, api.OK)
			e.Flush()
			units(t, e)
		}
	}
}
