package cache

import (
	"math"
	"math/rand"
	"slices"
	"testing"

	"selvedge/api"
)

// wrong are numbers that no block has.
var wrong = []int{-1, -2, math.MinInt, math.MaxInt, 1 << 32, api.MaxBlocks, api.MaxBlocks + 1}

// used is a cache of most, with these blocks used one behind the other.
func used(t *testing.T, most int, blocks ...int) *Cache {
	t.Helper()
	c := New(most)
	if c == nil {
		t.Fatal("New", most)
	}
	for _, b := range blocks {
		uses(t, c, b, -1)
	}
	return c
}

// uses fails the test unless gone goes for block.
func uses(t *testing.T, c *Cache, block, gone int) {
	t.Helper()
	if g, e := c.Use(block); g != gone || e != api.OK {
		t.Error("Use", block, "answers", g, e, "not", gone, "row", c.List())
	}
}

// does fails the test unless e is want.
func does(t *testing.T, what string, e, want api.Errno) {
	t.Helper()
	if e != want {
		t.Error(what, e, "not", want)
	}
}

// rows fails the test unless the row is l.
func rows(t *testing.T, c *Cache, l ...int) {
	t.Helper()
	if !slices.Equal(c.List(), l) {
		t.Error("List", c.List(), "not", l)
	}
}

// row are the numbers from one on to below another one.
func row(from, to int) []int {
	var l []int
	for n := from; n < to; n++ {
		l = append(l, n)
	}
	return l
}

// state is all that a cache tells now, and what goes for new blocks one by one: that hangs on all that it keeps.
type state struct {
	list, pins, errs, gone []int
}

func stateOf(c *Cache) state {
	s := state{list: c.List()}
	for b := range api.MaxBlocks {
		if c.Has(b) != slices.Contains(s.list, b) {
			panic("Has")
		}
		s.pins = append(s.pins, c.Pins(b))
		s.errs = append(s.errs, int(c.Fork().Drop(b)))
	}
	f := c.Fork()
	for b := range 12 {
		gone, e := f.Use(api.MaxBlocks - 1 - b)
		s.gone = append(s.gone, gone, int(e))
	}
	return s
}

func (s state) same(o state) bool {
	return slices.Equal(s.list, o.list) && slices.Equal(s.pins, o.pins) && slices.Equal(s.errs, o.errs) && slices.Equal(s.gone, o.gone)
}

// P8.1
func TestNew(t *testing.T) {
	for _, most := range []int{1, 2, 24, api.MaxBlocks - 1, api.MaxBlocks} {
		c := used(t, most)
		rows(t, c)
		for b := range api.MaxBlocks {
			gone := -1
			if b >= most {
				gone = b - most
			}
			if c.Has(b) || c.Pins(b) != 0 {
				t.Error(most, b)
			}
			uses(t, c, b, gone)
		}
		rows(t, c, row(api.MaxBlocks-most, api.MaxBlocks)...)
	}
	for _, most := range []int{0, -1, api.MaxBlocks + 1, math.MaxInt, math.MinInt} {
		if New(most) != nil {
			t.Error(most)
		}
	}
}

// P8.1
func TestUseWrongBlocks(t *testing.T) {
	for _, c := range []*Cache{used(t, 1), used(t, 1, 5), used(t, 3, 0, 95), used(t, 3, 0, 1, 95)} {
		before := stateOf(c)
		for _, b := range wrong {
			if gone, e := c.Use(b); gone != -1 || e != api.ErrRange {
				t.Error(b, gone, e)
			}
			if !before.same(stateOf(c)) {
				t.Error("changed", b)
			}
		}
	}
	full := used(t, 1, 5)
	full.Pin(5, true)
	if gone, e := full.Use(api.MaxBlocks); gone != -1 || e != api.ErrRange {
		t.Error("ErrRange is ahead of ErrFull", gone, e)
	}
}

// P8.1: a block that is at hand stays where it is, and is touched.
func TestUseAtHand(t *testing.T) {
	c := used(t, 3, 7, 8)
	uses(t, c, 7, -1)
	rows(t, c, 7, 8)
	uses(t, c, 9, -1)
	uses(t, c, 1, 7) // all were touched: once round, then the first one
	rows(t, c, 8, 9, 1)
	uses(t, c, 8, -1)
	rows(t, c, 8, 9, 1)
	uses(t, c, 2, 9)
	rows(t, c, 1, 8, 2)
	uses(t, c, 3, 8) // 1 was touched when it came, 8 no more
	rows(t, c, 2, 1, 3)
}

// P8.1: when all are touched, the hand goes round once, and none of those that stay is touched any more.
func TestUseOfAllTouched(t *testing.T) {
	c := used(t, 4, 1, 2, 3, 4)
	uses(t, c, 5, 1)
	rows(t, c, 2, 3, 4, 5)
	uses(t, c, 6, 2)
	uses(t, c, 7, 3)
	rows(t, c, 4, 5, 6, 7)
	uses(t, c, 4, -1)
	uses(t, c, 8, 4) // all were touched again
	rows(t, c, 5, 6, 7, 8)
	uses(t, c, 5, -1)
	uses(t, c, 9, 6) // 5 goes by, 6 was not touched any more
	rows(t, c, 7, 8, 5, 9)
}

// P8.1: one that can't go is gone by, and isn't touched any more.
func TestUseGoesBy(t *testing.T) {
	for _, hold := range []func(c *Cache, b int, on bool){
		func(c *Cache, b int, on bool) { c.Pin(b, on) },
		func(c *Cache, b int, on bool) { c.Dirty(b, on) },
		func(c *Cache, b int, on bool) { c.Pin(b, on); c.Dirty(b, on) },
	} {
		c := used(t, 3, 1, 2, 3)
		hold(c, 1, true)
		uses(t, c, 4, 2)
		rows(t, c, 3, 1, 4)
		hold(c, 1, false)
		uses(t, c, 5, 3)
		rows(t, c, 1, 4, 5)
		uses(t, c, 6, 1)
		rows(t, c, 4, 5, 6)
		hold(c, 4, true)
		hold(c, 6, true)
		uses(t, c, 7, 5) // twice round: 4 can't go, 5 is touched, 6 can't go; 4 can't go, then 5
		rows(t, c, 6, 4, 7)
		hold(c, 4, false)
		uses(t, c, 8, 4)
		rows(t, c, 7, 6, 8)
	}
}

// P8.1, P8.3: if none can go, nothing changes.
func TestUseOfFull(t *testing.T) {
	for most := 1; most <= api.MaxBlocks-1; most += 19 {
		c := used(t, most, row(0, most)...)
		for b := range most {
			if b%2 == 0 {
				does(t, "Pin", c.Pin(b, true), api.OK)
			} else {
				does(t, "Dirty", c.Dirty(b, true), api.OK)
			}
		}
		before := stateOf(c)
		for _, b := range []int{most, api.MaxBlocks - 1} {
			if gone, e := c.Use(b); gone != -1 || e != api.ErrFull {
				t.Error(most, b, gone, e)
			}
		}
		if !before.same(stateOf(c)) {
			t.Error("changed", most)
		}
		uses(t, c, most-1, -1)
		for b := range most {
			f := c.Fork()
			f.Pin(b, false)
			f.Dirty(b, false)
			uses(t, f, api.MaxBlocks-1, b)
		}
	}
}

// P8.1: of a full one that is refused nothing is turned, and none is less touched.
func TestRefusedTurnsNothing(t *testing.T) {
	c := used(t, 3, 1, 2, 3)
	for b := 1; b <= 3; b++ {
		c.Dirty(b, true)
	}
	if gone, e := c.Use(4); gone != -1 || e != api.ErrFull {
		t.Error(gone, e)
	}
	rows(t, c, 1, 2, 3)
	c.Dirty(2, false)
	uses(t, c, 4, 2)
	rows(t, c, 3, 1, 4) // 2 was touched still: the hand went round
}

// P8.1: of one there is one at hand at a time.
func TestMostOne(t *testing.T) {
	c := used(t, 1, 3)
	uses(t, c, 3, -1)
	uses(t, c, 0, 3)
	uses(t, c, 95, 0)
	rows(t, c, 95)
	c.Pin(95, true)
	if gone, e := c.Use(0); gone != -1 || e != api.ErrFull {
		t.Error(gone, e)
	}
	uses(t, c, 95, -1)
	rows(t, c, 95)
}

// P8.1: with room for all no block ever goes.
func TestMostAll(t *testing.T) {
	c := used(t, api.MaxBlocks, row(0, api.MaxBlocks)...)
	for b := range api.MaxBlocks {
		c.Pin(b, true)
		uses(t, c, b, -1)
	}
	rows(t, c, row(0, api.MaxBlocks)...)
}

// P8.1: what went comes back as new: without pins, not dirty.
func TestComesBackAsNew(t *testing.T) {
	c := used(t, 2, 1, 2)
	does(t, "Pin", c.Pin(1, true), api.OK)
	does(t, "Dirty", c.Dirty(1, true), api.OK)
	does(t, "let go", c.Pin(1, false), api.OK)
	does(t, "clean", c.Dirty(1, false), api.OK)
	does(t, "Drop", c.Drop(1), api.OK)
	uses(t, c, 1, -1)
	if c.Pins(1) != 0 {
		t.Error(c.Pins(1))
	}
	does(t, "Drop", c.Drop(1), api.OK)
	rows(t, c, 2)
}

// P8.2: pins count; no more are let go than were put on.
func TestPins(t *testing.T) {
	c := used(t, 2, 4, 5)
	does(t, "let go of none", c.Pin(4, false), api.ErrState)
	for _, n := range []int{1, 2, 3} {
		does(t, "on", c.Pin(4, true), api.OK)
		if c.Pins(4) != n || c.Pins(5) != 0 {
			t.Error(n, c.Pins(4), c.Pins(5))
		}
	}
	for _, n := range []int{2, 1, 0} {
		does(t, "Drop", c.Fork().Drop(4), api.ErrBusy)
		uses(t, c.Fork(), 9, 5)
		does(t, "off", c.Pin(4, false), api.OK)
		if c.Pins(4) != n {
			t.Error(n, c.Pins(4))
		}
	}
	before := stateOf(c)
	does(t, "let go once too often", c.Pin(4, false), api.ErrState)
	if !before.same(stateOf(c)) {
		t.Error("changed")
	}
	uses(t, c, 9, 4)
}

// P8.2: twice on, once off: it is held still.
func TestPinTwice(t *testing.T) {
	c := used(t, 1, 4)
	c.Pin(4, true)
	c.Pin(4, true)
	c.Pin(4, false)
	if gone, e := c.Use(5); gone != -1 || e != api.ErrFull || c.Pins(4) != 1 {
		t.Error(gone, e, c.Pins(4))
	}
	c.Pin(4, false)
	uses(t, c, 5, 4)
}

// P8.2: dirty is dirty, however often it was told.
func TestDirtyTwice(t *testing.T) {
	c := used(t, 1, 4)
	does(t, "clean already", c.Dirty(4, false), api.OK)
	does(t, "on", c.Dirty(4, true), api.OK)
	does(t, "on again", c.Dirty(4, true), api.OK)
	does(t, "Drop", c.Drop(4), api.ErrBusy)
	if gone, e := c.Use(5); gone != -1 || e != api.ErrFull {
		t.Error(gone, e)
	}
	if c.Pins(4) != 0 {
		t.Error(c.Pins(4))
	}
	does(t, "off", c.Dirty(4, false), api.OK)
	uses(t, c, 5, 4)
}

// P8.2: neither Pin nor Dirty touches, nor takes the touch away.
func TestPinAndDirtyTouchNothing(t *testing.T) {
	c := used(t, 3, 1, 2, 3)
	uses(t, c, 4, 1) // 2 and 3 are not touched now
	for _, b := range []int{2, 4} {
		c.Pin(b, true)
		c.Dirty(b, true)
		c.Dirty(b, false)
		c.Pin(b, false)
	}
	rows(t, c, 2, 3, 4)
	uses(t, c, 5, 2)
	uses(t, c, 6, 3)
	uses(t, c, 3, 4)
	rows(t, c, 5, 6, 3)
}

// P8.2
func TestDrop(t *testing.T) {
	c := used(t, 4, 1, 2, 3, 4)
	uses(t, c, 5, 1) // 2, 3 and 4 are not touched now
	does(t, "Drop", c.Drop(3), api.OK)
	rows(t, c, 2, 4, 5)
	if c.Has(3) {
		t.Error("still there")
	}
	does(t, "Drop again", c.Drop(3), api.ErrNoent)
	does(t, "Pin of what was dropped", c.Pin(3, true), api.ErrNoent)
	uses(t, c, 3, -1)
	rows(t, c, 2, 4, 5, 3)
	does(t, "Drop of the first", c.Drop(2), api.OK)
	does(t, "Drop of the last", c.Drop(3), api.OK)
	rows(t, c, 4, 5)
	c.Pin(4, true)
	c.Dirty(5, true)
	before := stateOf(c)
	does(t, "held", c.Drop(4), api.ErrBusy)
	does(t, "dirty", c.Drop(5), api.ErrBusy)
	if !before.same(stateOf(c)) {
		t.Error("changed")
	}
	c.Pin(4, false)
	c.Dirty(5, false)
	does(t, "Drop", c.Drop(4), api.OK)
	does(t, "Drop of the only one", c.Drop(5), api.OK)
	rows(t, c)
	uses(t, c, 7, -1)
	rows(t, c, 7)
}

// P8.2: of blocks that are not at hand, whatever their number.
func TestNotAtHand(t *testing.T) {
	for _, c := range []*Cache{used(t, 3), used(t, 3, 1), used(t, 3, 1, 2, 3)} {
		c.Pin(1, true)
		before := stateOf(c)
		for _, b := range append([]int{0, 4, 95}, wrong...) {
			for _, on := range []bool{true, false} {
				does(t, "Pin", c.Pin(b, on), api.ErrNoent)
				does(t, "Dirty", c.Dirty(b, on), api.ErrNoent)
			}
			does(t, "Drop", c.Drop(b), api.ErrNoent)
			if c.Has(b) || c.Pins(b) != 0 {
				t.Error(b, c.Has(b), c.Pins(b))
			}
		}
		if !before.same(stateOf(c)) {
			t.Error("changed")
		}
	}
}

// P8.1, P8.2, P1 of the rules
func TestNil(t *testing.T) {
	var c *Cache
	for _, b := range append([]int{0, 1, 95}, wrong...) {
		if gone, e := c.Use(b); gone != -1 || e != api.ErrNil {
			t.Error("Use", gone, e)
		}
		for _, on := range []bool{true, false} {
			does(t, "Pin", c.Pin(b, on), api.ErrNil)
			does(t, "Dirty", c.Dirty(b, on), api.ErrNil)
		}
		does(t, "Drop", c.Drop(b), api.ErrNil)
		if c.Has(b) || c.Pins(b) != 0 {
			t.Error(c.Has(b), c.Pins(b))
		}
	}
	if len(c.List()) != 0 || c.Fork() != nil {
		t.Error(c.List(), c.Fork())
	}
}

// P8.2, P3 of the rules: the row that is answered is the caller's.
func TestListIsTheCallers(t *testing.T) {
	c := used(t, 4, 1, 2, 3)
	a, b := c.List(), c.List()
	a[0] = 50
	a = append(a, 60)
	b = append(b, 61)
	rows(t, c, 1, 2, 3)
	if b[0] != 1 || a[3] != 60 {
		t.Error(a, b)
	}
	uses(t, c, 4, -1)
	if !slices.Equal(b, []int{1, 2, 3, 61}) {
		t.Error(b)
	}
	rows(t, c, 1, 2, 3, 4)
}

// P8.2, P4 of the rules
func TestFork(t *testing.T) {
	c := used(t, 4, 1, 2, 3)
	c.Pin(2, true)
	c.Dirty(3, true)
	f := c.Fork()
	if f == nil || f == c || !stateOf(f).same(stateOf(c)) {
		t.Fatal("not the same")
	}
	for _, pair := range [][2]*Cache{{c, f}, {f.Fork(), c}, {c, c.Fork()}, {f, f.Fork()}} {
		one, other := pair[0].Fork(), pair[1]
		before := stateOf(other)
		for _, change := range []func(){
			func() { one.Use(4) }, func() { one.Use(5) }, func() { one.Use(2) }, func() { one.Use(6) },
			func() { one.Pin(2, true) }, func() { one.Dirty(2, true) }, func() { one.Dirty(3, false) }, func() { one.Drop(3) },
			func() { one.Fork().Drop(4) }, func() { one.Use(7) }, func() { one.Use(8) },
		} {
			change()
			if !before.same(stateOf(other)) {
				t.Error("what became of the one changed the other one")
			}
		}
	}
}

// P4 of the rules: two forks that go on from the same row stay their own.
func TestForksGoOn(t *testing.T) {
	for n := 1; n < 9; n++ {
		c := used(t, 12, row(0, n)...)
		a, b := c.Fork(), c.Fork()
		uses(t, a, 20, -1)
		uses(t, b, 30, -1)
		uses(t, c, 40, -1)
		for i, x := range []*Cache{a, b, c} {
			rows(t, x, append(row(0, n), 20+10*i)...)
		}
	}
}

// words is a cache told by the chapter's words alone.
type words struct {
	most           int
	row            []int
	pins           map[int]int
	dirty, touched map[int]bool
}

func wordsOf(most int) *words {
	return &words{most, nil, map[int]int{}, map[int]bool{}, map[int]bool{}}
}

func (w *words) can(b int) bool { return w.pins[b] == 0 && !w.dirty[b] }

func (w *words) use(b int) (int, api.Errno) {
	if slices.Contains(w.row, b) {
		w.touched[b] = true
		return -1, api.OK
	}
	gone := -1
	if len(w.row) >= w.most {
		if !slices.ContainsFunc(w.row, w.can) {
			return -1, api.ErrFull
		}
		for !w.can(w.row[0]) || w.touched[w.row[0]] {
			w.touched[w.row[0]] = false
			w.row = append(slices.Clone(w.row[1:]), w.row[0])
		}
		gone = w.row[0]
		w.row = slices.Clone(w.row[1:])
	}
	w.row = append(w.row, b)
	w.pins[b], w.dirty[b], w.touched[b] = 0, false, true
	return gone, api.OK
}

func (w *words) pin(b int, on bool) api.Errno {
	switch {
	case !slices.Contains(w.row, b):
		return api.ErrNoent
	case on:
		w.pins[b]++
	case w.pins[b] == 0:
		return api.ErrState
	default:
		w.pins[b]--
	}
	return api.OK
}

func (w *words) setDirty(b int, on bool) api.Errno {
	if !slices.Contains(w.row, b) {
		return api.ErrNoent
	}
	w.dirty[b] = on
	return api.OK
}

func (w *words) drop(b int) api.Errno {
	at := slices.Index(w.row, b)
	if at < 0 {
		return api.ErrNoent
	}
	if !w.can(b) {
		return api.ErrBusy
	}
	w.row = append(slices.Clone(w.row[:at]), w.row[at+1:]...)
	return api.OK
}

// step does the same to both, and fails the test where their answers differ.
func step(t *testing.T, c *Cache, w *words, what, b int) {
	t.Helper()
	var e, want api.Errno
	gone, wantGone := -1, -1
	switch what {
	default:
		gone, e = c.Use(b)
		wantGone, want = w.use(b)
	case 1, 2:
		e, want = c.Pin(b, what == 1), w.pin(b, what == 1)
	case 3, 4:
		e, want = c.Dirty(b, what == 3), w.setDirty(b, what == 3)
	case 5:
		e, want = c.Drop(b), w.drop(b)
	}
	if gone != wantGone || e != want || !slices.Equal(c.List(), w.row) {
		t.Fatal("step", what, "of", b, "answers", gone, e, "not", wantGone, want, "rows", c.List(), w.row)
	}
	for _, b := range w.row {
		if !c.Has(b) || c.Pins(b) != w.pins[b] {
			t.Fatal("pins", b, c.Pins(b), w.pins[b])
		}
	}
}

// P8.1 to P8.4: long rows of calls against the words. What is held or dirty never goes, and never more than most are at hand.
func TestAgainstTheWords(t *testing.T) {
	chance := rand.New(rand.NewSource(8))
	for round := range 300 {
		most := 1 + round%7
		blocks := 1 + chance.Intn(most+4)
		c, w := New(most), wordsOf(most)
		for range 200 {
			holds := slices.DeleteFunc(c.List(), w.can)
			step(t, c, w, chance.Intn(9), chance.Intn(blocks))
			for _, b := range holds {
				if !c.Has(b) {
					t.Fatal("went, and could not go", b)
				}
			}
			if len(c.List()) > most {
				t.Fatal("more than most", c.List())
			}
		}
	}
}

// P8.1, P8.2: all short rows of calls against the words.
func TestAllShortRows(t *testing.T) {
	const calls, blocks, most, long = 6, 3, 2, 4
	all := calls * blocks
	rows := 1
	for range long {
		rows *= all
	}
	for n := range rows {
		c, w := New(most), wordsOf(most)
		for at, left := 0, n; at < long; at, left = at+1, left/all {
			step(t, c, w, left%all/blocks, left%blocks)
		}
		for b := 10; b < 13; b++ {
			step(t, c, w, 0, b)
		}
	}
}

// The chapter's example.
func TestExample(t *testing.T) {
	c := New(2)
	uses(t, c, 1, -1)
	uses(t, c, 2, -1)
	uses(t, c, 3, 1)
}
