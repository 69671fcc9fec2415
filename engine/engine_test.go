package engine

import (
	"math"
	"slices"
	"strings"
	"testing"

	"selvedge/api"
	"selvedge/disk"
)

// wrong are numbers that no block has.
var wrong = []int{-1, -2, math.MinInt, math.MaxInt, 1 << 32, api.MaxBlocks, api.MaxBlocks + 1}

// p is an item: a patch, behind some.
func p(block, off int, data string, deps ...int) api.Item {
	return api.Item{Patch: api.Patch{Block: block, Off: off, Data: data}, Deps: deps}
}

// many are n items that lie apart from all others of their block, or write the same byte, if that is full.
func many(n, blocks int) []api.Item {
	l := make([]api.Item, n)
	for i := range l {
		l[i] = p(i%blocks, i/blocks%api.BlockSize, string(rune('a'+i%26)))
	}
	return l
}

// some are n sectors, all different.
func some(n int) []disk.Sector {
	l := make([]disk.Sector, n)
	for i := range l {
		for at := range l[i] {
			l[i][at] = byte(200 + i)
		}
	}
	return l
}

// over is an engine over blocks that are all different.
func over(t *testing.T, n int) *Engine {
	t.Helper()
	e := New(disk.Load(some(n)))
	if e == nil {
		t.Fatal("New", n)
	}
	return e
}

// adds fails the test unless the patches are added, the first one with that number.
func adds(t *testing.T, e *Engine, first int, l ...api.Item) {
	t.Helper()
	if n, r := e.Add(l...); n != first || r != api.OK {
		t.Fatal("Add", n, r, "not", first)
	}
}

// writes fails the test unless Write answers so.
func writes(t *testing.T, e *Engine, i, n int, want api.Errno) {
	t.Helper()
	if got, r := e.Write(i); got != n || r != want {
		t.Error("Write", i, "answers", got, r, "not", n, want)
	}
}

// does fails the test unless e is want.
func does(t *testing.T, what string, e, want api.Errno) {
	t.Helper()
	if e != want {
		t.Error(what, e, "not", want)
	}
}

// numbered fails the test unless the two are the same.
func numbered(t *testing.T, what string, l []int, want ...int) {
	t.Helper()
	if !slices.Equal(l, want) {
		t.Error(what, l, "not", want)
	}
}

// text is a block of bytes v, with data from off on, and again.
func text(v byte, l ...any) string {
	b := []byte(strings.Repeat(string([]byte{v}), api.BlockSize))
	for at := 0; at < len(l); at += 2 {
		copy(b[l[at].(int):], l[at+1].(string))
	}
	return string(b)
}

// shows fails the test unless Block is that.
func shows(t *testing.T, e *Engine, i int, want string) {
	t.Helper()
	if b, r := e.Block(i); r != api.OK || string(b) != want {
		t.Errorf("Block %d: %q, %d, not %q", i, b, r, want)
	}
}

// leaves fails the test unless a Crash that picks so leaves that of a block.
func leaves(t *testing.T, e *Engine, pick []int, i int, want string) {
	t.Helper()
	d := e.Crash(pick)
	if s, r := d.Lasting(i); r != api.OK || string(s[:]) != want {
		t.Errorf("Crash %v leaves of %d: %q, %d, not %q", pick, i, s[:], r, want)
	}
	if s, _ := d.Read(i); string(s[:]) != want || d.Versions(i) != 0 {
		t.Errorf("Crash %v: versions of %d", pick, i)
	}
}

// told is all that an engine tells, and what its forks would tell behind some calls.
type told struct {
	numbers [][]int
	bytes   []string
}

func toldBy(e *Engine) told {
	s := told{numbers: [][]int{{e.Next(), e.Size()}, e.Waiting(), e.Dirty()}}
	for i := range e.Size() {
		b, _ := e.Block(i)
		s.bytes = append(s.bytes, string(b))
		s.numbers = append(s.numbers, e.Ready(i))
		n, r := e.Fork().Write(i)
		s.numbers = append(s.numbers, []int{n, int(r)})
	}
	for v := range 4 {
		d := e.Crash(slices.Repeat([]int{v}, e.Size()))
		for i := range e.Size() {
			b, _ := d.Lasting(i)
			s.bytes = append(s.bytes, string(b[:]))
			s.numbers = append(s.numbers, []int{int(d.Write(i, b))})
		}
	}
	f := e.Fork()
	f.Flush()
	s.numbers = append(s.numbers, f.Waiting())
	return s
}

func (s told) same(o told) bool {
	return slices.EqualFunc(s.numbers, o.numbers, slices.Equal[[]int]) && slices.Equal(s.bytes, o.bytes)
}

// P7.1: what the disk has is there, its versions last, its bad blocks are bad; the disk itself stays as it is.
func TestNew(t *testing.T) {
	if New(nil) != nil {
		t.Error("of nil")
	}
	d := disk.Load(some(4))
	d.Write(1, disk.Sector{7})
	d.Write(1, disk.Sector{8})
	d.Write(3, disk.Sector{9})
	d.Spoil(2, true)
	d.Spoil(3, true)
	e := New(d)
	if e == nil || e.Size() != 4 || e.Next() != 0 || len(e.Waiting()) != 0 || len(e.Dirty()) != 0 {
		t.Fatal(e)
	}
	for i, want := range []string{text(200), string([]byte{8}) + text(0)[1:], text(202), string([]byte{9}) + text(0)[1:]} {
		shows(t, e, i, want)
		numbered(t, "Ready", e.Ready(i))
		leaves(t, e, nil, i, want)
		leaves(t, e, []int{1, 1, 1, 1}, i, want)
		writes(t, e, i, 0, api.OK)
	}
	adds(t, e, 0, p(0, 0, "a"), p(1, 0, "a"), p(2, 0, "a"), p(3, 0, "a"))
	for i, want := range []api.Errno{api.OK, api.OK, api.ErrIO, api.ErrIO} {
		writes(t, e, i, 1-int(want)/10, want)
	}
	e.Flush()
	if d.Versions(1) != 2 || d.Versions(3) != 1 || d.Versions(0) != 0 {
		t.Error("the disk's versions", d.Versions(1), d.Versions(3))
	}
	for i, s := range some(4) {
		if l, _ := d.Lasting(i); l != s {
			t.Error("the disk changed", i)
		}
	}
}

// P7.1, P4 of the rules: what becomes of the disk changes nothing of the engine.
func TestNewKeepsNothing(t *testing.T) {
	d := disk.Load(some(2))
	e := New(d)
	adds(t, e, 0, p(1, 3, "ab"))
	before := toldBy(e)
	d.Write(0, disk.Sector{1})
	d.Write(1, disk.Sector{1})
	d.Spoil(1, true)
	d.Flush()
	if !before.same(toldBy(e)) {
		t.Error("changed")
	}
	for _, n := range []int{1, api.MaxBlocks} {
		if e := New(disk.New(n)); e.Size() != n {
			t.Error(n, e.Size())
		}
	}
}

// P7.1
func TestAdd(t *testing.T) {
	e := over(t, 3)
	adds(t, e, 0)
	adds(t, e, 0, p(2, 0, "ab"))
	adds(t, e, 1)
	if n, r := e.Add([]api.Item{}...); n != 1 || r != api.OK {
		t.Error(n, r)
	}
	adds(t, e, 1, p(0, 31, "x"), p(0, 0, text('z')), p(2, 4, "cd", 0, 0))
	if e.Next() != 4 {
		t.Error(e.Next())
	}
	numbered(t, "Waiting", e.Waiting(), 0, 1, 2, 3)
	numbered(t, "Dirty", e.Dirty(), 0, 2)
	shows(t, e, 0, text('z'))
	shows(t, e, 1, text(201))
	shows(t, e, 2, text(202, 0, "ab", 4, "cd"))
	for i := range 3 {
		leaves(t, e, []int{1, 1, 1}, i, text(byte(200+i)))
	}
}

// P7.1: patches that are not right, or of a block that there is not: nothing of the call is added.
func TestAddOfWrongPatches(t *testing.T) {
	long := strings.Repeat("x", api.BlockSize+1)
	for _, n := range []int{1, 5, api.MaxBlocks} {
		e := over(t, n)
		adds(t, e, 0, p(0, 0, "a"))
		before := toldBy(e)
		for _, bad := range []api.Item{
			{}, p(0, 0, ""), p(0, 31, "ab"), p(0, 32, "a"), p(0, -1, "a"), p(0, 0, long), p(-1, 0, "a"), p(n, 0, "a"), p(n+1, 0, "a"), p(api.MaxBlocks, 0, "a"),
			p(math.MinInt, 0, "a"), p(math.MaxInt, 0, "a"), p(0, math.MaxInt, "a"), p(0, math.MinInt, "a"), p(n, 0, "a", 5), p(-1, 0, "a", -1),
		} {
			for _, l := range [][]api.Item{{bad}, {p(0, 0, "b"), bad}, {bad, p(0, 0, "b")}, {p(0, 0, "b", 99), bad}, {p(0, 0, "b", -1), bad}, append(many(api.MaxPending+1, n), bad)} {
				if first, r := e.Add(l...); first != 0 || r != api.ErrForm {
					t.Error(n, bad, first, r)
				}
			}
		}
		if !before.same(toldBy(e)) {
			t.Error("changed", n)
		}
		adds(t, e, 1, p(n-1, 31, "a"), p(n-1, 0, long[1:]))
	}
}

// P7.1: Deps that name no patch that may be named.
func TestAddOfWrongDeps(t *testing.T) {
	e := over(t, 4)
	adds(t, e, 0, p(0, 0, "a"), p(1, 0, "b"), p(2, 0, "c"))
	writes(t, e, 0, 1, api.OK)
	e.Flush()
	before := toldBy(e)
	for _, d := range []int{3, 4, 5, 200, math.MaxInt, -1, -2, -3, -4, -200, math.MinInt, math.MinInt + 1} {
		if first, r := e.Add(p(3, 0, "x", d)); first != 0 || r != api.ErrRange {
			t.Error(d, first, r)
		}
		if first, r := e.Add(p(3, 0, "x", 0, 1, 2, d, 0)); first != 0 || r != api.ErrRange {
			t.Error(d, first, r)
		}
		full := append(many(api.MaxPending, 4), p(3, 0, "x", d))
		if place := -1 - d; place >= 0 && place < api.MaxPending {
			continue // there it names one ahead
		}
		if first, r := e.Add(full...); first != 0 || r != api.ErrRange {
			t.Error("ErrRange is ahead of ErrFull", d, first, r)
		}
	}
	// Of three in a call each may name those ahead of it, by their numbers below 0 alone.
	for at := range 3 {
		for d := -5; d < 8; d++ {
			l := []api.Item{p(3, 0, "x"), p(3, 1, "y"), p(3, 2, "z")}
			l[at].Deps = []int{d}
			want := api.OK
			if d >= 3 || d < -at {
				want = api.ErrRange
			}
			if first, r := e.Fork().Add(l...); r != want || want == api.OK && first != 3 || want != api.OK && first != 0 {
				t.Error(at, d, first, r)
			}
		}
	}
	if !before.same(toldBy(e)) {
		t.Error("changed")
	}
}

// P7.1: behind patches of earlier calls, that wait or last, and behind patches of the call.
func TestDeps(t *testing.T) {
	e := over(t, 5)
	adds(t, e, 0, p(0, 0, "a"), p(1, 0, "b"))
	writes(t, e, 0, 1, api.OK)
	e.Flush()
	adds(t, e, 2, p(2, 0, "c", 0), p(3, 0, "d", 1), p(4, 0, "e", -2), p(0, 0, "f", -1, 0, -1), p(0, 9, "g"), p(3, 9, "h", 0, -1, -5))
	numbered(t, "Ready 0: behind one of block 2, and behind nothing", e.Ready(0), 6)
	numbered(t, "Ready 1", e.Ready(1), 1)
	numbered(t, "Ready 2: behind one that lasts", e.Ready(2), 2)
	numbered(t, "Ready 3", e.Ready(3))
	numbered(t, "Ready 4", e.Ready(4))
	writes(t, e, 1, 1, api.OK)
	writes(t, e, 2, 1, api.OK)
	numbered(t, "what was written does not last yet", e.Ready(3))
	e.Flush()
	numbered(t, "Ready 0", e.Ready(0), 5, 6)
	numbered(t, "Ready 3: of two one that is behind the other block's", e.Ready(3), 3)
	writes(t, e, 3, 1, api.OK)
	e.Flush()
	numbered(t, "Ready 4", e.Ready(4), 4)
	writes(t, e, 0, 2, api.OK)
	e.Flush()
	numbered(t, "Ready 3", e.Ready(3), 7)
	does(t, "Sync", e.Sync(), api.OK)
	for i, want := range []string{text(200, 0, "f", 9, "g"), text(201, 0, "b"), text(202, 0, "c"), text(203, 0, "d", 9, "h"), text(204, 0, "e")} {
		shows(t, e, i, want)
		leaves(t, e, nil, i, want)
	}
}

// P7.1: -1 is the first one of the call, -2 the second one, whatever was added ahead of it.
func TestDepsOfTheCall(t *testing.T) {
	e := over(t, 9)
	for ahead := range 3 {
		e.Sync()
		adds(t, e, e.Next(), many(ahead, 9)...)
		e.Sync()
		first := e.Next()
		adds(t, e, first, p(0, 0, "a"), p(1, 0, "b"), p(2, 0, "c"), p(3, 0, "d", -1), p(4, 0, "e", -2), p(5, 0, "f", -3, -1), p(6, 0, "g", -4))
		for i, want := range [][2]int{{0, 3}, {1, 4}, {2, 0}, {0, 3}} {
			f := e.Fork()
			writes(t, f, want[0], 1, api.OK)
			f.Flush()
			for block := 3; block < 7; block++ {
				may := 0
				if block == want[1] {
					may = 1
				}
				if got := len(f.Ready(block)); got != may {
					t.Error(ahead, i, block, got, may)
				}
			}
		}
	}
}

// P7.1: MaxPending wait, and no more; what lasts is not counted.
func TestAddOfFull(t *testing.T) {
	for _, ahead := range []int{0, 1, 2, 100, api.MaxPending - 1, api.MaxPending} {
		e := over(t, 7)
		adds(t, e, 0, many(ahead, 7)...)
		before := toldBy(e)
		for _, n := range []int{api.MaxPending + 1 - ahead, api.MaxPending + 2 - ahead, api.MaxPending + 1, 5000} {
			if first, r := e.Add(many(n, 7)...); first != 0 || r != api.ErrFull {
				t.Error(ahead, n, first, r)
			}
		}
		if !before.same(toldBy(e)) {
			t.Error("changed", ahead)
		}
		adds(t, e, ahead, many(api.MaxPending-ahead, 7)...)
		if len(e.Waiting()) != api.MaxPending {
			t.Error(len(e.Waiting()))
		}
		adds(t, e, api.MaxPending)
		if first, r := e.Add(p(0, 0, "a")); first != 0 || r != api.ErrFull {
			t.Error(first, r)
		}
		n := len(e.Ready(3))
		writes(t, e, 3, n, api.OK)
		if _, r := e.Add(p(0, 0, "a")); r != api.ErrFull {
			t.Error("what was written does not last yet", r)
		}
		e.Flush()
		if _, r := e.Add(many(n+1, 7)...); r != api.ErrFull {
			t.Error(r)
		}
		adds(t, e, api.MaxPending, many(n, 7)...)
		does(t, "Sync", e.Sync(), api.OK)
		adds(t, e, api.MaxPending+n, many(api.MaxPending, 7)...)
	}
}

// P7.1: what overlaps comes behind, what lies apart does not; of one block alone.
func TestOverlaps(t *testing.T) {
	for _, c := range []struct {
		item   api.Item
		behind bool // behind the patch of block 0 that may not be written yet
	}{
		{p(0, 4, "xxxx"), true}, {p(0, 0, "xxxxx"), true}, {p(0, 7, "x"), true}, {p(0, 4, "x"), true}, {p(0, 5, "xx"), true}, {p(0, 0, text('x')), true},
		{p(0, 0, "xxxx"), false}, {p(0, 8, "x"), false}, {p(0, 0, "x"), false}, {p(0, 31, "x"), false},
		{p(1, 4, "xxxx"), false}, {p(3, 0, text('x')), false},
	} {
		e := over(t, 4)
		adds(t, e, 0, p(2, 0, "a"), p(0, 4, "bbbb", -1))
		adds(t, e, 2, c.item)
		if n := len(e.Ready(c.item.Patch.Block)); n == 1 == c.behind {
			t.Error("two calls", c.item.Patch, n)
		}
		writes(t, e, 2, 1, api.OK)
		e.Flush()
		numbered(t, "together", append(e.Ready(0), e.Ready(c.item.Patch.Block)...)[:1], 1)
		e = over(t, 4)
		adds(t, e, 0, p(2, 0, "a"), p(0, 4, "bbbb", -1), c.item)
		if n := len(e.Ready(c.item.Patch.Block)); n == 1 == c.behind {
			t.Error("one call", c.item.Patch, n)
		}
	}
}

// P7.1: what lasts already is nothing to come behind, though it overlaps.
func TestOverlapsWhatLasts(t *testing.T) {
	e := over(t, 2)
	adds(t, e, 0, p(0, 0, "abc"))
	e.Sync()
	adds(t, e, 1, p(0, 1, "xy", 0))
	numbered(t, "Ready", e.Ready(0), 1)
	shows(t, e, 0, text(200, 0, "axy"))
}

// P7.2: of a block none, some or all may be written.
func TestReady(t *testing.T) {
	e := over(t, 3)
	for i := range 3 {
		numbered(t, "none waits", e.Ready(i))
	}
	adds(t, e, 0, p(0, 0, "a"), p(1, 0, "b", -1), p(1, 4, "c"), p(1, 0, "d"), p(1, 9, "e", -4), p(1, 4, "ff"), p(1, 12, "g", -6), p(0, 9, "h", -7))
	numbered(t, "all but one behind block 0, one on it, and one behind that", e.Ready(1), 2, 5, 6)
	numbered(t, "one alone: the other one is behind block 1", e.Ready(0), 0)
	numbered(t, "none", e.Ready(2))
	writes(t, e, 2, 0, api.OK)
	writes(t, e, 0, 1, api.OK)
	writes(t, e, 1, 3, api.OK)
	numbered(t, "what was written waits still", e.Ready(1), 2, 5, 6)
	leaves(t, e, []int{0, 1}, 1, text(201, 4, "ff", 12, "g"))
	shows(t, e, 1, text(201, 0, "d", 4, "ff", 9, "e", 12, "g"))
	e.Flush()
	numbered(t, "Waiting", e.Waiting(), 1, 3, 4, 7)
	numbered(t, "Ready 1", e.Ready(1), 1, 3, 4)
	numbered(t, "Ready 0", e.Ready(0), 7)
	writes(t, e, 1, 3, api.OK)
	e.Flush()
	numbered(t, "Ready 1", e.Ready(1))
	shows(t, e, 1, text(201, 0, "d", 4, "ff", 9, "e", 12, "g"))
	leaves(t, e, nil, 1, text(201, 0, "d", 4, "ff", 9, "e", 12, "g"))
	leaves(t, e, nil, 0, text(200, 0, "a"))
	for _, i := range append([]int{3, 4}, wrong...) {
		numbered(t, "no such block", e.Ready(i))
	}
}

// P7.2: a row of patches of one block, each behind the one ahead, hangs on its first one.
func TestReadyOfRows(t *testing.T) {
	for n := 1; n < 12; n++ {
		for cut := range n {
			e := over(t, 2)
			adds(t, e, 0, p(0, 0, "a"))
			var want []int
			for k := range n {
				item := p(1, k, "x")
				if k > 0 {
					item.Deps = []int{k}
				}
				if k == cut {
					item.Deps = append(item.Deps, 0)
				}
				adds(t, e, k+1, item)
				if k < cut {
					want = append(want, k+1)
				}
			}
			numbered(t, "Ready", e.Ready(1), want...)
			writes(t, e, 1, cut, api.OK)
			writes(t, e, 0, 1, api.OK)
			e.Flush()
			writes(t, e, 1, n-cut, api.OK)
		}
	}
}

// P7.2: in order, whatever was written; ErrRange.
func TestBlock(t *testing.T) {
	e := over(t, 2)
	adds(t, e, 0, p(1, 0, "abcd"), p(0, 3, "z"), p(1, 2, "xy"), p(1, 30, "pq", -2), p(1, 1, "_"))
	for _, then := range []func(){
		func() {}, func() { e.Write(1) }, func() { e.Write(0) }, func() { e.Flush() }, func() { e.Write(1) }, func() { e.Flush() }, func() { e.Flush() },
	} {
		then()
		shows(t, e, 1, text(201, 0, "a_xy", 30, "pq"))
		shows(t, e, 0, text(200, 3, "z"))
	}
	adds(t, e, 5, p(1, 3, "!"))
	shows(t, e, 1, text(201, 0, "a_x!", 30, "pq"))
	for _, i := range append([]int{2, 3}, wrong...) {
		if b, r := e.Block(i); len(b) != 0 || r != api.ErrRange {
			t.Error(i, b, r)
		}
		writes(t, e, i, 0, api.ErrRange)
	}
}

// P7.2: a block is written again if there is more to write, or if there was a Flush.
func TestWriteTwice(t *testing.T) {
	e := over(t, 2)
	writes(t, e, 0, 0, api.OK)
	adds(t, e, 0, p(0, 0, "a"))
	writes(t, e, 1, 0, api.OK)
	writes(t, e, 0, 1, api.OK)
	writes(t, e, 0, 0, api.OK)
	writes(t, e, 0, 0, api.OK)
	adds(t, e, 1, p(0, 0, "b"), p(1, 0, "c"), p(0, 8, "d", -2))
	writes(t, e, 0, 2, api.OK)
	writes(t, e, 0, 0, api.OK)
	leaves(t, e, []int{0}, 0, text(200))
	leaves(t, e, []int{1}, 0, text(200, 0, "a"))
	leaves(t, e, []int{2}, 0, text(200, 0, "b"))
	leaves(t, e, []int{3}, 0, text(200))
	numbered(t, "Waiting", e.Waiting(), 0, 1, 2, 3)
	does(t, "Flush", e.Flush(), api.OK)
	numbered(t, "Waiting", e.Waiting(), 2, 3)
	writes(t, e, 0, 0, api.OK)
	writes(t, e, 1, 1, api.OK)
	writes(t, e, 0, 0, api.OK)
	does(t, "Flush", e.Flush(), api.OK)
	writes(t, e, 0, 1, api.OK)
	leaves(t, e, nil, 0, text(200, 0, "b"))
	leaves(t, e, []int{1}, 0, text(200, 0, "b", 8, "d"))
	does(t, "Flush", e.Flush(), api.OK)
	writes(t, e, 0, 0, api.OK)
	numbered(t, "Waiting", e.Waiting())
	leaves(t, e, []int{1, 1}, 0, text(200, 0, "b", 8, "d"))
	adds(t, e, 4, p(0, 0, "b"))
	writes(t, e, 0, 1, api.OK)
}

// P7.2: a Flush lets last what was written, not what was added behind.
func TestFlush(t *testing.T) {
	e := over(t, 3)
	does(t, "Flush of nothing", e.Flush(), api.OK)
	adds(t, e, 0, p(0, 0, "ab"), p(1, 0, "c"), p(2, 0, "d", -1))
	does(t, "Flush of nothing", e.Flush(), api.OK)
	numbered(t, "Waiting", e.Waiting(), 0, 1, 2)
	writes(t, e, 0, 1, api.OK)
	writes(t, e, 2, 0, api.OK)
	adds(t, e, 3, p(0, 1, "x"), p(0, 9, "y"))
	does(t, "Flush", e.Flush(), api.OK)
	numbered(t, "Waiting", e.Waiting(), 1, 2, 3, 4)
	numbered(t, "Dirty", e.Dirty(), 0, 1, 2)
	leaves(t, e, nil, 0, text(200, 0, "ab"))
	shows(t, e, 0, text(200, 0, "ax", 9, "y"))
	numbered(t, "Ready", e.Ready(2), 2)
}

// P7.2, P7.3: a bad block is not written; what was written of it ahead lasts.
func TestSpoil(t *testing.T) {
	e := over(t, 3)
	adds(t, e, 0, p(0, 0, "a"), p(1, 0, "b", -1), p(2, 0, "c"))
	does(t, "Spoil", e.Spoil(0, true), api.OK)
	before := toldBy(e)
	writes(t, e, 0, 0, api.ErrIO)
	writes(t, e, 0, 0, api.ErrIO)
	if !before.same(toldBy(e)) {
		t.Error("changed")
	}
	does(t, "Flush", e.Flush(), api.OK)
	numbered(t, "Waiting", e.Waiting(), 0, 1, 2)
	shows(t, e, 0, text(200, 0, "a"))
	numbered(t, "Ready", e.Ready(0), 0)
	does(t, "Spoil", e.Spoil(0, false), api.OK)
	writes(t, e, 0, 1, api.OK)
	does(t, "Spoil", e.Spoil(0, true), api.OK)
	writes(t, e, 0, 0, api.OK) // the same as at its last Write
	leaves(t, e, []int{1}, 0, text(200, 0, "a"))
	adds(t, e, 3, p(0, 9, "d"))
	writes(t, e, 0, 0, api.ErrIO)
	does(t, "Flush", e.Flush(), api.OK)
	numbered(t, "Waiting", e.Waiting(), 1, 2, 3)
	leaves(t, e, nil, 0, text(200, 0, "a"))
	does(t, "Spoil", e.Spoil(1, true), api.OK)
	writes(t, e, 1, 0, api.ErrIO)
	does(t, "Spoil", e.Spoil(2, true), api.OK)
	does(t, "Spoil", e.Spoil(2, false), api.OK)
	writes(t, e, 2, 1, api.OK)
	for _, i := range append([]int{3, 4}, wrong...) {
		for _, bad := range []bool{true, false} {
			does(t, "Spoil", e.Spoil(i, bad), api.ErrRange)
		}
	}
	writes(t, e, 2, 0, api.OK)
}

// P7.2: a bad block of which nothing may be written has no error.
func TestBadBlockOfNothing(t *testing.T) {
	e := over(t, 2)
	e.Spoil(1, true)
	writes(t, e, 1, 0, api.OK)
	adds(t, e, 0, p(0, 0, "a"), p(1, 0, "b", -1))
	writes(t, e, 1, 0, api.OK)
	does(t, "Sync", New(disk.New(1)).Sync(), api.OK)
}

// P7.3, P7.6: Sync goes on from block to block, forth and back.
func TestSync(t *testing.T) {
	e := over(t, 4)
	does(t, "Sync of nothing", e.Sync(), api.OK)
	var l []api.Item
	for k := range 30 {
		item := p(3-k%4, k%7, string(rune('a'+k)))
		if k > 0 {
			item.Deps = []int{-k}
		}
		l = append(l, item)
	}
	adds(t, e, 0, l...)
	var want []string
	for i := range 4 {
		b, _ := e.Block(i)
		want = append(want, string(b))
	}
	does(t, "Sync", e.Sync(), api.OK)
	numbered(t, "Waiting", e.Waiting())
	numbered(t, "Dirty", e.Dirty())
	for i := range 4 {
		shows(t, e, i, want[i])
		leaves(t, e, []int{1, 1, 1, 1}, i, want[i])
		numbered(t, "Ready", e.Ready(i))
		writes(t, e, i, 0, api.OK)
	}
	if e.Next() != 30 {
		t.Error(e.Next())
	}
	adds(t, e, 30, p(0, 0, "Z", 29))
}

// P7.3: Sync lets last what can, and has ErrIO; when the block is good again it lets all last.
func TestSyncOfBadBlocks(t *testing.T) {
	e := over(t, 4)
	adds(t, e, 0, p(3, 0, "a"), p(2, 0, "b", -1), p(1, 0, "c", -2), p(0, 0, "d", -3), p(0, 9, "e", -2), p(1, 9, "f"))
	e.Spoil(1, true)
	does(t, "Sync", e.Sync(), api.ErrIO)
	numbered(t, "Waiting", e.Waiting(), 2, 3, 5)
	for i, want := range []string{text(200, 9, "e"), text(201), text(202, 0, "b"), text(203, 0, "a")} {
		leaves(t, e, nil, i, want)
	}
	shows(t, e, 0, text(200, 0, "d", 9, "e"))
	shows(t, e, 1, text(201, 0, "c", 9, "f"))
	does(t, "Sync again", e.Sync(), api.ErrIO)
	numbered(t, "Waiting", e.Waiting(), 2, 3, 5)
	e.Spoil(1, false)
	does(t, "Sync", e.Sync(), api.OK)
	numbered(t, "Waiting", e.Waiting())
	for i, want := range []string{text(200, 0, "d", 9, "e"), text(201, 0, "c", 9, "f"), text(202, 0, "b"), text(203, 0, "a")} {
		leaves(t, e, nil, i, want)
	}
	e.Spoil(0, true)
	does(t, "Sync of nothing, a block is bad", e.Sync(), api.OK)
}

// P7.3: what was written of a block that is bad now lasts by Sync.
func TestSyncOfWhatWasWritten(t *testing.T) {
	e := over(t, 2)
	adds(t, e, 0, p(0, 0, "a"), p(1, 0, "b", -1))
	writes(t, e, 0, 1, api.OK)
	e.Spoil(0, true)
	does(t, "Sync", e.Sync(), api.OK)
	leaves(t, e, nil, 0, text(200, 0, "a"))
	leaves(t, e, nil, 1, text(201, 0, "b"))
}

// P7.3: a Crash picks of the blocks that were written, rising; the engine goes on as if there was none.
func TestCrash(t *testing.T) {
	e := over(t, 4)
	adds(t, e, 0, p(3, 0, "a"), p(1, 0, "b"), p(0, 0, "c", -1))
	writes(t, e, 3, 1, api.OK)
	writes(t, e, 1, 1, api.OK)
	adds(t, e, 3, p(3, 1, "x"))
	writes(t, e, 3, 1+1, api.OK)
	e.Spoil(2, true)
	before := toldBy(e)
	for _, c := range []struct {
		pick []int
		one  string
		last string
	}{
		{nil, text(201), text(203)}, {[]int{}, text(201), text(203)}, {[]int{0, 0}, text(201), text(203)}, {[]int{1}, text(201, 0, "b"), text(203)},
		{[]int{1, 1}, text(201, 0, "b"), text(203, 0, "a")}, {[]int{1, 2}, text(201, 0, "b"), text(203, 0, "ax")}, {[]int{0, 2}, text(201), text(203, 0, "ax")},
		{[]int{2, 1}, text(201), text(203, 0, "a")}, {[]int{-1, 3, 1}, text(201), text(203)}, {[]int{math.MaxInt, math.MinInt}, text(201), text(203)},
	} {
		pick := append(slices.Clone(c.pick), 9, 9)[:len(c.pick)]
		d := e.Crash(pick)
		if !slices.Equal(pick, c.pick) || pick[:len(pick)+2][len(pick)] != 9 {
			t.Error("changed", c.pick, pick)
		}
		leaves(t, e, c.pick, 0, text(200))
		leaves(t, e, c.pick, 1, c.one)
		leaves(t, e, c.pick, 2, text(202))
		leaves(t, e, c.pick, 3, c.last)
		if d.Size() != 4 || d.Write(2, disk.Sector{}) != api.ErrIO || d.Write(3, disk.Sector{}) != api.OK || d.Flush() != api.OK || d.Spoil(0, true) != api.OK {
			t.Error("the disk that is left")
		}
		if !before.same(toldBy(e)) {
			t.Error("what became of the disk that is left changed the engine", c.pick)
		}
	}
}

// P7.3
func TestDirtyAndWaiting(t *testing.T) {
	e := over(t, api.MaxBlocks)
	var want []int
	for k := range 40 {
		adds(t, e, k, p(k*37%api.MaxBlocks, 0, "a"))
		want = append(want, k*37%api.MaxBlocks)
		slices.Sort(want)
		numbered(t, "Dirty", e.Dirty(), slices.Compact(slices.Clone(want))...)
		if l := e.Waiting(); len(l) != k+1 || l[k] != k || l[0] != 0 {
			t.Error(l)
		}
	}
	for k := range 40 {
		writes(t, e, k*37%api.MaxBlocks, 1, api.OK)
		if len(e.Dirty()) != 40-k {
			t.Error(k, e.Dirty())
		}
		e.Flush()
		if l := e.Waiting(); len(l) != 39-k || len(l) > 0 && l[0] != k+1 || slices.Contains(e.Dirty(), k*37%api.MaxBlocks) {
			t.Error(k, l)
		}
	}
}

// P3 of the rules: what is handed in stays, and is not kept.
func TestHandedIn(t *testing.T) {
	e := over(t, 3)
	adds(t, e, 0, p(0, 0, "a"))
	deps := []int{0, -1, 77}
	l := []api.Item{p(1, 0, "b"), p(2, 0, "c"), p(0, 9, "z")}
	l[1].Deps = deps[:2]
	adds(t, e, 1, l[:2]...)
	if !slices.Equal(deps, []int{0, -1, 77}) || l[2].Patch != p(0, 9, "z").Patch || l[1].Patch != p(2, 0, "c").Patch || l[0].Deps != nil {
		t.Error("changed", deps, l)
	}
	before := toldBy(e)
	deps[0], deps[1] = 50, 60
	l[0], l[1] = p(0, 0, "y"), p(0, 1, "y")
	if !before.same(toldBy(e)) {
		t.Error("kept")
	}
	writes(t, e, 0, 1, api.OK)
	writes(t, e, 1, 1, api.OK)
	e.Flush()
	writes(t, e, 2, 1, api.OK)
}

// P3 of the rules: what is answered is the caller's.
func TestAnswered(t *testing.T) {
	e := over(t, 2)
	adds(t, e, 0, p(0, 0, "a"), p(1, 0, "b"), p(0, 4, "c"))
	before := toldBy(e)
	for range 2 {
		b, _ := e.Block(0)
		b[0], b[31] = 1, 2
		_ = append(b, 3)
		for _, l := range [][]int{e.Waiting(), e.Ready(0), e.Dirty()} {
			l[0] = 99
			_ = append(l, 98)
		}
		if !before.same(toldBy(e)) {
			t.Error("changed")
		}
	}
}

// P4 of the rules
func TestFork(t *testing.T) {
	e := over(t, 3)
	adds(t, e, 0, p(0, 0, "a"), p(1, 0, "b", -1), p(2, 0, "c"), p(0, 0, "d"))
	writes(t, e, 2, 1, api.OK)
	e.Spoil(1, true)
	f := e.Fork()
	if f == nil || f == e || !toldBy(f).same(toldBy(e)) {
		t.Fatal("not the same")
	}
	for _, pair := range [][2]*Engine{{e, f}, {f.Fork(), e}, {e, e.Fork()}, {f, f.Fork()}} {
		one, other := pair[0].Fork(), pair[1]
		before := toldBy(other)
		for _, change := range []func(){
			func() { one.Add(p(0, 0, "x"), p(1, 0, "y", 0, -1)) }, func() { one.Write(0) }, func() { one.Add(p(2, 0, "z")) }, func() { one.Write(2) },
			func() { one.Fork().Flush() }, func() { one.Flush() }, func() { one.Spoil(0, true) }, func() { one.Spoil(1, false) }, func() { one.Crash([]int{1, 1}) },
			func() { one.Sync() }, func() { one.Add(p(1, 0, "w")) }, func() { one.Sync() },
		} {
			change()
			if !before.same(toldBy(other)) {
				t.Error("what became of the one changed the other one")
			}
		}
	}
}

// P4 of the rules: forks that go on with as many patches have each its own.
func TestForksGoOn(t *testing.T) {
	for n := range 9 {
		e := over(t, 2)
		adds(t, e, 0, many(n, 2)...)
		a, b := e.Fork(), e.Fork()
		adds(t, a, n, p(0, 20, "A"))
		adds(t, b, n, p(1, 20, "B"))
		adds(t, e, n, p(0, 21, "C"))
		for i, x := range []*Engine{a, b, e} {
			data, _ := x.Block(i % 2)
			if data[20+i/2] != byte('A'+i) || len(x.Waiting()) != n+1 {
				t.Error(n, i, data, x.Waiting())
			}
			does(t, "Sync", x.Sync(), api.OK)
		}
	}
}

// P7.1 to P7.3, P1 of the rules
func TestNil(t *testing.T) {
	var e *Engine
	for _, i := range append([]int{0, 1}, wrong...) {
		if n, r := e.Add(p(i, 0, "a")); n != 0 || r != api.ErrNil {
			t.Error("Add", n, r)
		}
		if b, r := e.Block(i); len(b) != 0 || r != api.ErrNil {
			t.Error("Block", b, r)
		}
		writes(t, e, i, 0, api.ErrNil)
		does(t, "Spoil", e.Spoil(i, true), api.ErrNil)
		numbered(t, "Ready", e.Ready(i))
		if e.Crash([]int{i}) != nil {
			t.Error("Crash")
		}
	}
	if n, r := e.Add(); n != 0 || r != api.ErrNil {
		t.Error("Add", n, r)
	}
	does(t, "Flush", e.Flush(), api.ErrNil)
	does(t, "Sync", e.Sync(), api.ErrNil)
	numbered(t, "Waiting", e.Waiting())
	numbered(t, "Dirty", e.Dirty())
	if e.Crash(nil) != nil || e.Next() != 0 || e.Size() != 0 || e.Fork() != nil {
		t.Error(e.Next(), e.Size())
	}
}

// The chapter's example.
func TestExample(t *testing.T) {
	e := New(disk.New(2))
	adds(t, e, 0, p(0, 0, "a"), p(1, 0, "b", -1))
	writes(t, e, 1, 0, api.OK)
	writes(t, e, 0, 1, api.OK)
	e.Flush()
	writes(t, e, 1, 1, api.OK)
}
