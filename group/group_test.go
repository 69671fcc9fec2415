package group

import (
	"math"
	"slices"
	"testing"

	"selvedge/api"
)

// wrong are numbers that no group has.
var wrong = []int{0, -1, -2, math.MinInt, math.MaxInt, 1 << 32, 9, 100}

// made are so many groups, all Fresh.
func made(t *testing.T, many int) *Groups {
	t.Helper()
	g := New()
	for n := 1; n <= many; n++ {
		makes(t, g, n)
	}
	return g
}

// makes fails the test unless the next group is n.
func makes(t *testing.T, g *Groups, n int) {
	t.Helper()
	if got, e := g.Make(); got != n || e != api.OK {
		t.Fatal("Make", got, e, "not", n)
	}
}

// does fails the test unless all of these are OK.
func does(t *testing.T, l ...api.Errno) {
	t.Helper()
	for i, e := range l {
		if e != api.OK {
			t.Fatal("call", i, "has", e)
		}
	}
}

// rows fails the test unless a list has just those.
func rows(t *testing.T, what string, got []int, want ...int) {
	t.Helper()
	if !slices.Equal(got, want) {
		t.Error(what, got, "not", want)
	}
}

// in is a group that is so far.
func in(t *testing.T, g *Groups, state api.GroupState) int {
	t.Helper()
	n, e := g.Make()
	does(t, e)
	switch state {
	case api.Engaged:
		does(t, g.Engage(n))
	case api.Resting:
		does(t, g.Engage(n), g.Disengage(n))
	case api.Released:
		does(t, g.Release(n))
	}
	if got := g.State(n); got != state {
		t.Fatal("State", got, "not", state)
	}
	return n
}

var states = []api.GroupState{api.Fresh, api.Engaged, api.Resting, api.Released}

// told is all that groups tell.
type told struct {
	states        []api.GroupState
	patches, rows [][]int
}

// tell asks all of groups whose numbers are small, and of such as are not there.
func tell(g *Groups) told {
	is := told{rows: [][]int{g.Engaged(), g.Behind()}}
	for _, n := range append([]int{1, 2, 3, 4, 5, 6, 7, 8}, append(wrong, 10, 11, 12, 13, 14, 15, 16)...) {
		is.states = append(is.states, g.State(n))
		is.patches = append(is.patches, g.Patches(n))
		is.rows = append(is.rows, g.Ahead(n))
	}
	return is
}

func (a told) same(b told) bool {
	return slices.Equal(a.states, b.states) && slices.EqualFunc(a.patches, b.patches, slices.Equal) && slices.EqualFunc(a.rows, b.rows, slices.Equal)
}

// refuses fails the test unless a call has that error, and changes nothing.
func refuses(t *testing.T, what string, g *Groups, want api.Errno, call func() api.Errno) {
	t.Helper()
	was := tell(g)
	if e := call(); e != want {
		t.Error(what, e, "not", want)
	}
	if !was.same(tell(g)) {
		t.Error(what, "changes something beside an error")
	}
}

// Example 1.
func TestExample(t *testing.T) {
	g := made(t, 1)
	does(t, g.Release(1))
	makes(t, g, 2)
	does(t, g.Depend(2, 1))
	rows(t, "Ahead", g.Ahead(2), 1)
	rows(t, "Ahead", g.Ahead(1))
}

// Words: a new group is Fresh, without patches, and behind none.
func TestNew(t *testing.T) {
	g := New()
	for _, n := range append(wrong, 1) {
		if g.State(n) != api.NoGroup || len(g.Patches(n)) != 0 || len(g.Ahead(n)) != 0 {
			t.Error("there is a group", n)
		}
	}
	rows(t, "Engaged", g.Engaged())
	rows(t, "Behind", g.Behind())
	makes(t, g, 1)
	if g.State(1) != api.Fresh || len(g.Patches(1)) != 0 || len(g.Ahead(1)) != 0 {
		t.Error(g.State(1), g.Patches(1), g.Ahead(1))
	}
}

// P13.1: there are at most MaxGroups, and a number is never had again.
func TestMake(t *testing.T) {
	g := made(t, api.MaxGroups)
	full := func() api.Errno {
		n, e := g.Make()
		if n != 0 {
			t.Error("a number beside an error", n)
		}
		return e
	}
	refuses(t, "Make", g, api.ErrFull, full)
	refuses(t, "Make", g, api.ErrFull, full)
	does(t, g.Abandon(8))
	makes(t, g, 9)
	refuses(t, "Make", g, api.ErrFull, full)
	does(t, g.Abandon(1), g.Abandon(9))
	makes(t, g, 10)
	makes(t, g, 11)
	refuses(t, "Make", g, api.ErrFull, full)
	for n, want := range []api.GroupState{0, 0, 1, 1, 1, 1, 1, 1, 0, 0, 1, 1, 0} {
		if g.State(n) != want {
			t.Error(n, g.State(n))
		}
	}
	for n := range 1000 { // those that are gone do not count
		does(t, g.Abandon(11+n))
		makes(t, g, 12+n)
	}
}

// P13.1: what each call does to a group that is so far.
func TestStates(t *testing.T) {
	const no = api.NoGroup // it is refused
	for _, c := range []struct {
		what string
		call func(g *Groups, n int) api.Errno
		next [4]api.GroupState // of Fresh, Engaged, Resting, Released
	}{
		{"Engage", (*Groups).Engage, [4]api.GroupState{api.Engaged, no, api.Engaged, no}},
		{"Disengage", (*Groups).Disengage, [4]api.GroupState{no, api.Resting, no, no}},
		{"Release", (*Groups).Release, [4]api.GroupState{api.Released, no, api.Released, no}},
	} {
		for i, state := range states {
			g := New()
			other := in(t, g, state)
			n := in(t, g, state)
			if c.next[i] == no {
				refuses(t, c.what, g, api.ErrState, func() api.Errno { return c.call(g, n) })
				continue
			}
			if e := c.call(g, n); e != api.OK || g.State(n) != c.next[i] || g.State(other) != state {
				t.Error(c.what, state, e, g.State(n), g.State(other))
			}
		}
		g := made(t, 3)
		does(t, g.Abandon(2))
		for _, n := range append(wrong, 2, 4) {
			refuses(t, c.what, g, api.ErrNoent, func() api.Errno { return c.call(g, n) })
		}
	}
}

// P13.1
func TestDepend(t *testing.T) {
	for _, later := range states {
		for _, ahead := range states {
			g := New()
			l, a := in(t, g, later), in(t, g, ahead)
			if later == api.Fresh && ahead == api.Released {
				does(t, g.Depend(l, a))
				rows(t, "Ahead", g.Ahead(l), a)
				rows(t, "Ahead", g.Ahead(a))
				refuses(t, "Depend back", g, api.ErrState, func() api.Errno { return g.Depend(a, l) })
				continue
			}
			refuses(t, "Depend", g, api.ErrState, func() api.Errno { return g.Depend(l, a) })
		}
		g := New()
		n := in(t, g, later)
		refuses(t, "Depend on itself", g, api.ErrState, func() api.Errno { return g.Depend(n, n) })
	}
	g := made(t, 3)
	does(t, g.Release(2), g.Abandon(3))
	for _, n := range append(wrong, 3, 4) {
		refuses(t, "Depend of none", g, api.ErrNoent, func() api.Errno { return g.Depend(n, 2) })
		refuses(t, "Depend on none", g, api.ErrNoent, func() api.Errno { return g.Depend(1, n) })
		refuses(t, "Depend on none", g, api.ErrNoent, func() api.Errno { return g.Depend(2, n) }) // ahead of ErrState
		refuses(t, "Depend of none", g, api.ErrNoent, func() api.Errno { return g.Depend(n, 1) })
		refuses(t, "Depend", g, api.ErrNoent, func() api.Errno { return g.Depend(n, n) })
	}
}

// P13.2: what it comes behind itself, and all that these come behind, each once; a smaller number may come behind a greater one.
func TestAhead(t *testing.T) {
	g := made(t, 7)
	does(t, g.Release(6), g.Depend(2, 6), g.Release(2), g.Depend(4, 2), g.Depend(4, 6), g.Depend(4, 6), g.Release(4), g.Depend(1, 2), g.Release(1))
	rows(t, "Ahead", g.Ahead(4), 2, 6)
	does(t, g.Depend(7, 4), g.Depend(7, 1))
	for n, want := range map[int][]int{1: {2, 6}, 2: {6}, 3: nil, 4: {2, 6}, 5: nil, 6: nil, 7: {1, 2, 4, 6}} {
		rows(t, "Ahead", g.Ahead(n), want...)
	}
	does(t, g.Release(7), g.Depend(5, 7), g.Engage(5), g.Engage(3))
	rows(t, "Ahead", g.Ahead(5), 1, 2, 4, 6, 7)
	for _, n := range append(wrong, 8) {
		rows(t, "Ahead of none", g.Ahead(n))
	}
}

// P13.1
func TestAbandon(t *testing.T) {
	for _, state := range states {
		g := New()
		other, n := in(t, g, state), in(t, g, state)
		if state == api.Engaged {
			refuses(t, "Abandon", g, api.ErrState, func() api.Errno { return g.Abandon(n) })
			continue
		}
		does(t, g.Abandon(n))
		if g.State(n) != api.NoGroup || g.State(other) != state {
			t.Error(state, g.State(n), g.State(other))
		}
		refuses(t, "Abandon again", g, api.ErrNoent, func() api.Errno { return g.Abandon(n) })
	}
	for _, n := range wrong {
		g := made(t, 2)
		refuses(t, "Abandon", g, api.ErrNoent, func() api.Errno { return g.Abandon(n) })
	}
	// 3 behind 2 behind 1; 4 behind 1.
	g := made(t, 4)
	does(t, g.Release(1), g.Depend(2, 1), g.Release(2), g.Depend(3, 2), g.Depend(4, 1), g.Engage(3), g.Took(7))
	for n, want := range map[int]api.Errno{1: api.ErrBusy, 2: api.ErrBusy, 3: api.ErrState} {
		refuses(t, "Abandon", g, want, func() api.Errno { return g.Abandon(n) })
	}
	does(t, g.Disengage(3), g.Abandon(3))
	rows(t, "Patches of what is gone", g.Patches(3))
	refuses(t, "Abandon", g, api.ErrBusy, func() api.Errno { return g.Abandon(1) })
	does(t, g.Abandon(2))
	rows(t, "Ahead of what is gone", g.Ahead(2))
	refuses(t, "Abandon", g, api.ErrBusy, func() api.Errno { return g.Abandon(1) }) // 4 is there still
	does(t, g.Abandon(4), g.Abandon(1))
}

// P13.2
func TestTook(t *testing.T) {
	g := made(t, 3)
	does(t, g.Took(5))
	does(t, g.Engage(1), g.Took(9), g.Took(9), g.Engage(2), g.Took(4), g.Took(9), g.Took(0), g.Disengage(1), g.Took(math.MaxInt), g.Took(1))
	rows(t, "Patches", g.Patches(1), 0, 4, 9)
	rows(t, "Patches", g.Patches(2), 0, 1, 4, 9, math.MaxInt)
	rows(t, "Patches", g.Patches(3))
	does(t, g.Engage(1), g.Took(2), g.Disengage(1), g.Disengage(2), g.Took(3), g.Release(1))
	rows(t, "Patches", g.Patches(1), 0, 2, 4, 9)
	rows(t, "Patches", g.Patches(2), 0, 1, 2, 4, 9, math.MaxInt)
	does(t, g.Engage(2))
	for _, patch := range []int{-1, -2, math.MinInt} {
		refuses(t, "Took", g, api.ErrRange, func() api.Errno { return g.Took(patch) })
		refuses(t, "Took", made(t, 1), api.ErrRange, func() api.Errno { return New().Took(patch) })
	}
	for _, n := range append(wrong, 4) {
		rows(t, "Patches of none", g.Patches(n))
	}
}

// P13.2: what those that are engaged come behind, through others too; not what they have themselves.
func TestBehind(t *testing.T) {
	g := made(t, 6)
	does(t, g.Engage(1), g.Took(3), g.Took(8), g.Disengage(1), g.Engage(2), g.Took(5), g.Took(8), g.Disengage(2), g.Release(1), g.Release(2))
	does(t, g.Depend(3, 1), g.Release(3), g.Depend(4, 3), g.Depend(5, 2), g.Depend(5, 1))
	rows(t, "Behind", g.Behind())
	does(t, g.Engage(4))
	rows(t, "Behind", g.Behind(), 3, 8) // through 3, that has none
	does(t, g.Took(1), g.Took(8), g.Engage(6), g.Took(0))
	rows(t, "Behind", g.Behind(), 3, 8)
	does(t, g.Engage(5))
	rows(t, "Behind", g.Behind(), 3, 5, 8)
	rows(t, "Engaged", g.Engaged(), 4, 5, 6)
	does(t, g.Disengage(4))
	rows(t, "Behind", g.Behind(), 3, 5, 8)
	does(t, g.Disengage(5))
	rows(t, "Behind", g.Behind())
	rows(t, "Engaged", g.Engaged(), 6)
	does(t, g.Engage(4))
	rows(t, "Behind", g.Behind(), 3, 8)
	rows(t, "Engaged", g.Engaged(), 4, 6)
}

// P13.4
func TestReleasedStays(t *testing.T) {
	g := made(t, 4)
	does(t, g.Release(1), g.Depend(2, 1), g.Engage(2), g.Took(1), g.Took(2), g.Disengage(2), g.Release(2), g.Release(4))
	does(t, g.Engage(3), g.Took(3))
	for _, call := range []func() api.Errno{
		func() api.Errno { return g.Depend(2, 4) }, func() api.Errno { return g.Engage(2) }, func() api.Errno { return g.Disengage(2) }, func() api.Errno { return g.Release(2) },
	} {
		refuses(t, "call", g, api.ErrState, call)
	}
	rows(t, "Patches", g.Patches(2), 1, 2)
	rows(t, "Ahead", g.Ahead(2), 1)
}

// P4 of the rules: Fork.
func TestFork(t *testing.T) {
	g := made(t, 4)
	does(t, g.Release(1), g.Depend(2, 1), g.Engage(3), g.Took(1), g.Took(6))
	f := g.Fork()
	was := tell(g)
	if !was.same(tell(f)) {
		t.Fatal(tell(f))
	}
	makes(t, f, 5)
	does(t, f.Took(4), f.Disengage(3), f.Depend(4, 1), f.Engage(2), f.Release(4), f.Depend(5, 4), f.Abandon(3))
	if !was.same(tell(g)) {
		t.Error("a Fork changes what it is one of", tell(g))
	}
	is := tell(f)
	makes(t, g, 5)
	does(t, g.Took(9), g.Engage(4), g.Release(2), g.Depend(5, 2), g.Disengage(3), g.Abandon(3), g.Release(5))
	if !is.same(tell(f)) {
		t.Error("a Fork is changed", tell(f))
	}
	makes(t, f, 6)
	makes(t, g, 6)
}

// P3 of the rules: what is answered is the caller's.
func TestAnswers(t *testing.T) {
	g := made(t, 4)
	does(t, g.Engage(1), g.Took(1), g.Took(2), g.Disengage(1), g.Release(1), g.Depend(2, 1), g.Release(2), g.Depend(3, 2), g.Engage(3), g.Engage(4), g.Took(5))
	was := tell(g)
	for _, l := range [][]int{g.Behind(), g.Patches(1), g.Patches(3), g.Ahead(3), g.Engaged()} {
		if len(l) == 0 {
			t.Error("nothing to write into")
		}
		l = l[:cap(l)]
		for i := range l {
			l[i] = 4
		}
	}
	if !was.same(tell(g)) {
		t.Error("an answer is kept")
	}
}

// P1, P13.1, P13.2: nil.
func TestNil(t *testing.T) {
	var g *Groups
	if n, e := g.Make(); n != 0 || e != api.ErrNil {
		t.Error("Make", n, e)
	}
	for _, n := range append(wrong, 1) {
		for i, e := range []api.Errno{g.Depend(n, 1), g.Depend(1, n), g.Engage(n), g.Disengage(n), g.Release(n), g.Abandon(n), g.Took(n)} {
			if e != api.ErrNil {
				t.Error(i, e)
			}
		}
		if g.State(n) != api.NoGroup || len(g.Patches(n)) != 0 || len(g.Ahead(n)) != 0 {
			t.Error("of nil", n)
		}
	}
	if len(g.Behind()) != 0 || len(g.Engaged()) != 0 || g.Fork() != nil {
		t.Error("of nil")
	}
}
