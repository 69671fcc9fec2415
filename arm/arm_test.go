package arm

import (
	"math"
	"slices"
	"testing"

	"selvedge/api"
)

var policies = []api.Policy{api.Fifo, api.Near, api.Scan, api.Cyclic}

// wrong are numbers that no block has, wrongPer numbers that no track has places, wrongPolicies what is no policy.
var (
	wrong         = []int{-1, -2, math.MinInt, math.MaxInt, 1 << 32, api.MaxPlaces, api.MaxPlaces + 1}
	wrongPer      = []int{0, -1, 65, 66, 128, math.MinInt, math.MaxInt, 1<<32 + 1}
	wrongPolicies = []api.Policy{api.NoPolicy, api.Cyclic + 1, 6, 128, 255}
)

// standing is an arm that went to a block, and of which some are asked for.
func standing(t *testing.T, p api.Policy, per, at int, l ...int) *Arm {
	t.Helper()
	a := New(p, per)
	if a == nil {
		t.Fatal("New", p, per)
	}
	asks(t, a, at)
	goes(t, a, at)
	asks(t, a, l...)
	return a
}

// asks fails the test unless each may be asked for.
func asks(t *testing.T, a *Arm, l ...int) {
	t.Helper()
	for _, block := range l {
		does(t, "Ask", a.Ask(block), api.OK)
	}
}

// goes fails the test unless the arm goes to these.
func goes(t *testing.T, a *Arm, l ...int) {
	t.Helper()
	for _, want := range l {
		if block, ok := a.Next(); block != want || !ok {
			t.Fatal("Next", block, ok, "not", want)
		}
		if a.At() != want || a.Age(want) != -1 || slices.Contains(a.Waiting(), want) {
			t.Error("behind", want, "it is at", a.At(), a.Age(want), a.Waiting())
		}
	}
}

// ends fails the test unless none is asked for.
func ends(t *testing.T, a *Arm) {
	t.Helper()
	before := toldBy(a)
	if block, ok := a.Next(); block != 0 || ok || len(a.Waiting()) != 0 {
		t.Error("Next", block, ok, a.Waiting())
	}
	if !before.same(toldBy(a)) {
		t.Error("a Next that goes nowhere changed something")
	}
}

// does fails the test unless e is want.
func does(t *testing.T, what string, e, want api.Errno) {
	t.Helper()
	if e != want {
		t.Error(what, "has", e, "not", want)
	}
}

// is fails the test unless a number is that.
func is(t *testing.T, what string, n, want int) {
	t.Helper()
	if n != want {
		t.Error(what, n, "not", want)
	}
}

// listed fails the test unless the two are the same.
func listed(t *testing.T, what string, l []int, want ...int) {
	t.Helper()
	if !slices.Equal(l, want) {
		t.Error(what, l, "not", want)
	}
}

// waits fails the test unless these are asked for, in that order.
func waits(t *testing.T, a *Arm, want ...int) {
	t.Helper()
	listed(t, "Waiting", a.Waiting(), want...)
}

// told is all that an arm tells, and where it would go.
type told struct {
	at, moved int
	up        bool
	lists     [3][]int
}

func toldBy(a *Arm) told {
	s := told{at: a.At(), moved: a.Moved(), up: a.Up()}
	s.lists[0] = a.Waiting()
	for _, block := range s.lists[0] {
		s.lists[1] = append(s.lists[1], a.Age(block))
	}
	f := a.Fork()
	for block, ok := f.Next(); ok; block, ok = f.Next() {
		s.lists[2] = append(s.lists[2], block)
	}
	return s
}

func (s told) same(o told) bool {
	for k := range s.lists {
		if !slices.Equal(s.lists[k], o.lists[k]) {
			return false
		}
	}
	return s.at == o.at && s.moved == o.moved && s.up == o.up
}

// unchanged fails the test if the call changes something.
func unchanged(t *testing.T, a *Arm, call func()) {
	t.Helper()
	before := toldBy(a)
	call()
	if after := toldBy(a); !before.same(after) {
		t.Error("changed", before, after)
	}
}

// P21.1
func TestNew(t *testing.T) {
	for _, p := range policies {
		for _, per := range []int{1, 2, 63, 64} {
			a := New(p, per)
			if a == nil || a.At() != 0 || a.Moved() != 0 || !a.Up() || len(a.Waiting()) != 0 || a.Age(0) != -1 {
				t.Error(p, per, a)
			}
			ends(t, a)
		}
		for _, per := range wrongPer {
			if New(p, per) != nil {
				t.Error(p, per)
			}
		}
	}
	for _, p := range wrongPolicies {
		for _, per := range append([]int{1, 5, 64}, wrongPer...) {
			if New(p, per) != nil {
				t.Error(p, per)
			}
		}
	}
}

// P21.1
func TestAsk(t *testing.T) {
	a := New(api.Fifo, 7)
	asks(t, a, 5, 0, api.MaxPlaces-1)
	waits(t, a, 5, 0, api.MaxPlaces-1)
	unchanged(t, a, func() {
		for _, block := range wrong {
			does(t, "Ask", a.Ask(block), api.ErrRange)
		}
		for _, block := range []int{0, 5, api.MaxPlaces - 1} {
			does(t, "Ask", a.Ask(block), api.ErrExist)
		}
	})
	goes(t, a, 5)
	is(t, "Age", a.Age(0), 1)
	asks(t, a, 5)
	waits(t, a, 0, api.MaxPlaces-1, 5)
	is(t, "Age", a.Age(5), 0)
}

// P21.1: no more than MaxAsked; the other errors are ahead of that.
func TestAskOfTooMuch(t *testing.T) {
	a := New(api.Near, 64)
	for block := range api.MaxAsked {
		asks(t, a, 40*block)
	}
	unchanged(t, a, func() {
		does(t, "Ask", a.Ask(1), api.ErrFull)
		does(t, "Ask", a.Ask(api.MaxPlaces-1), api.ErrFull)
		does(t, "Ask", a.Ask(40), api.ErrExist)
		does(t, "Ask", a.Ask(-1), api.ErrRange)
		does(t, "Ask", a.Ask(api.MaxPlaces), api.ErrRange)
	})
	does(t, "Cancel", a.Cancel(80), api.OK)
	asks(t, a, 1)
	does(t, "Ask", a.Ask(80), api.ErrFull)
	goes(t, a, 0)
	asks(t, a, 80)
	does(t, "Ask", a.Ask(0), api.ErrFull)
}

// P21.1
func TestCancel(t *testing.T) {
	a := New(api.Fifo, 1)
	asks(t, a, 4, 9, 2, 6)
	goes(t, a, 4)
	unchanged(t, a, func() {
		for _, block := range append([]int{0, 3, 4}, wrong...) {
			does(t, "Cancel", a.Cancel(block), api.ErrNoent)
		}
	})
	does(t, "Cancel", a.Cancel(2), api.OK)
	does(t, "Cancel", a.Cancel(2), api.ErrNoent)
	waits(t, a, 9, 6)
	is(t, "Age", a.Age(2), -1)
	is(t, "Age", a.Age(6), 1)
	is(t, "At", a.At(), 4)
	is(t, "Moved", a.Moved(), 4)
	asks(t, a, 2)
	is(t, "Age of what was asked for anew", a.Age(2), 0)
	goes(t, a, 9, 6, 2)
	ends(t, a)
}

// P21.1: each policy, with ties, and what is asked for where the arm stands.
func TestPolicies(t *testing.T) {
	for _, c := range []struct {
		p       api.Policy
		per, at int
		asked   []int
		want    []int
	}{
		{api.Fifo, 1, 5, []int{9, 2, 7}, []int{9, 2, 7}}, {api.Fifo, 5, 0, []int{1023, 0, 500, 1}, []int{1023, 0, 500, 1}},
		{api.Near, 1, 5, []int{9, 2, 7}, []int{7, 9, 2}}, {api.Near, 1, 5, []int{7, 3}, []int{3, 7}}, {api.Near, 1, 5, []int{3, 7}, []int{3, 7}},
		// On tracks of 10: 15 and 35 are 1 apart from 25, as 24 is; 27 is 2 apart.
		{api.Near, 10, 25, []int{27, 35, 15, 24}, []int{15, 24, 35, 27}}, {api.Near, 10, 25, []int{35, 27}, []int{35, 27}}, {api.Near, 10, 25, []int{45, 27}, []int{27, 45}},
		// 29 is 1 + 9 apart from 30, though it stands right ahead of it.
		{api.Near, 10, 30, []int{29, 39}, []int{39, 29}}, {api.Near, 10, 30, []int{29, 80, 40}, []int{40, 80, 29}},
		{api.Near, 64, 100, []int{100, 99}, []int{100, 99}},
		{api.Scan, 1, 5, []int{9, 2, 7}, []int{7, 9, 2}}, {api.Scan, 1, 5, []int{3, 2, 4}, []int{4, 3, 2}}, {api.Scan, 1, 5, []int{6, 5, 4}, []int{5, 6, 4}}, {api.Scan, 64, 5, []int{8, 80, 4, 60}, []int{8, 60, 80, 4}},
		{api.Cyclic, 1, 5, []int{9, 2, 7}, []int{7, 9, 2}}, {api.Cyclic, 1, 5, []int{4, 3, 2}, []int{2, 3, 4}}, {api.Cyclic, 1, 5, []int{6, 4, 5, 0}, []int{5, 6, 0, 4}}, {api.Cyclic, 9, 1000, []int{3, 999, 1000, 1001}, []int{1000, 1001, 3, 999}},
	} {
		a := standing(t, c.p, c.per, c.at, c.asked...)
		goes(t, a, c.want...)
		ends(t, a)
	}
}

// P21.1: a Scan turns where there is nothing more, and goes on in its direction until then.
func TestScanTurns(t *testing.T) {
	a := standing(t, api.Scan, 8, 50, 60, 40, 30)
	if !a.Up() {
		t.Error("it goes up at first")
	}
	goes(t, a, 60)
	if !a.Up() {
		t.Error("it turns just where it goes back")
	}
	goes(t, a, 40)
	if a.Up() {
		t.Error("it did not turn")
	}
	asks(t, a, 41, 39, 40)
	goes(t, a, 40, 39, 30)
	if a.Up() {
		t.Error("it turned")
	}
	does(t, "Cancel", a.Cancel(41), api.OK)
	ends(t, a)
	if a.Up() {
		t.Error("it turned, with nothing asked for")
	}
	asks(t, a, 30, 41)
	goes(t, a, 30)
	if a.Up() {
		t.Error("it turned for what is asked for where it stands")
	}
	goes(t, a, 41)
	if !a.Up() {
		t.Error("it did not turn")
	}
	asks(t, a, 41)
	goes(t, a, 41)
	if !a.Up() {
		t.Error("it turned for what is asked for where it stands")
	}
}

// P21.1: Near, Cyclic and Fifo leave the direction as it is.
func TestOthersDoNotTurn(t *testing.T) {
	for _, p := range []api.Policy{api.Fifo, api.Near, api.Cyclic} {
		a := standing(t, p, 4, 50, 40)
		goes(t, a, 40)
		if !a.Up() {
			t.Error(p, "turned")
		}
		does(t, "Set", a.Set(api.Scan), api.OK)
		asks(t, a, 30)
		goes(t, a, 30)
		does(t, "Set", a.Set(p), api.OK)
		asks(t, a, 90)
		goes(t, a, 90)
		if a.Up() {
			t.Error(p, "turned")
		}
	}
}

// P21.1: the age is how many times it went to another one since.
func TestAges(t *testing.T) {
	a := New(api.Fifo, 3)
	asks(t, a, 1, 2, 3)
	goes(t, a, 1)
	asks(t, a, 4)
	goes(t, a, 2)
	for block, want := range []int{-1, -1, -1, 2, 1, -1} {
		is(t, "Age", a.Age(block), want)
	}
	does(t, "Cancel", a.Cancel(4), api.OK)
	asks(t, a, 4)
	is(t, "Age", a.Age(4), 0)
	does(t, "Set", a.Set(api.Near), api.OK)
	is(t, "Age", a.Age(3), 2)
	for _, block := range wrong {
		is(t, "Age", a.Age(block), -1)
	}
}

// older lets an arm that stands below 100 go to and fro near there, so often.
func older(t *testing.T, a *Arm, times int) {
	t.Helper()
	for k := range times {
		asks(t, a, 50+k%2)
		goes(t, a, 50+k%2)
	}
}

// P21.1: what waited for MaxWait turns is the next one, whatever the policy says; not one turn ahead of that.
func TestOld(t *testing.T) {
	a := standing(t, api.Near, 1, 50, 900)
	older(t, a, api.MaxWait)
	is(t, "Age", a.Age(900), api.MaxWait)
	asks(t, a, 51)
	goes(t, a, 900, 51)

	a = standing(t, api.Near, 1, 50, 900)
	older(t, a, api.MaxWait-1)
	is(t, "Age", a.Age(900), api.MaxWait-1)
	asks(t, a, 51, 52)
	goes(t, a, 51, 900, 52)

	// Of several the one that was asked for first, not the nearest, nor the least.
	a = standing(t, api.Near, 1, 50, 900, 800, 950)
	older(t, a, api.MaxWait)
	goes(t, a, 900, 800, 950)

	// What was asked for later is not old yet; what was taken back and asked for anew is not, either.
	a = standing(t, api.Cyclic, 1, 50, 900, 10)
	older(t, a, 2)
	does(t, "Cancel", a.Cancel(10), api.OK)
	asks(t, a, 10)
	does(t, "Set", a.Set(api.Near), api.OK)
	older(t, a, api.MaxWait-2)
	asks(t, a, 51)
	goes(t, a, 900)
	is(t, "Age", a.Age(10), api.MaxWait-1)
	goes(t, a, 51, 10)
}

// P21.1: to an old one it goes up or down, and on so.
func TestOldTurns(t *testing.T) {
	for _, p := range []api.Policy{api.Near, api.Scan} {
		a := standing(t, api.Near, 1, 50, 10)
		older(t, a, api.MaxWait)
		does(t, "Set", a.Set(p), api.OK)
		asks(t, a, 60)
		goes(t, a, 10)
		if a.Up() {
			t.Error(p, "went up")
		}
		does(t, "Set", a.Set(api.Scan), api.OK)
		asks(t, a, 11, 9)
		goes(t, a, 9, 11, 60)

		asks(t, a, 30)
		goes(t, a, 30)
		does(t, "Set", a.Set(api.Near), api.OK)
		asks(t, a, 99)
		older(t, a, api.MaxWait)
		does(t, "Set", a.Set(p), api.OK)
		if a.Up() {
			t.Error("it turned")
		}
		asks(t, a, 20)
		goes(t, a, 99)
		if !a.Up() {
			t.Error(p, "went down")
		}
	}
}

// P21.1: a Fifo of so many that the later ones get old tells the direction, too.
func TestOldOfFifo(t *testing.T) {
	a := New(api.Fifo, 1)
	for k := range api.MaxAsked {
		asks(t, a, 100-k)
	}
	for k := range api.MaxAsked {
		goes(t, a, 100-k)
		if a.Up() != (k < api.MaxWait) {
			t.Error(k, a.Up())
		}
	}
}

// P21.1
func TestSet(t *testing.T) {
	a := standing(t, api.Fifo, 1, 5, 9, 2, 7, 6)
	unchanged(t, a, func() {
		for _, p := range wrongPolicies {
			does(t, "Set", a.Set(p), api.ErrRange)
		}
	})
	goes(t, a, 9)
	for _, c := range []struct {
		p    api.Policy
		want int
	}{{api.Fifo, 2}, {api.Near, 7}, {api.Scan, 7}, {api.Cyclic, 2}} {
		f := a.Fork()
		does(t, "Set", f.Set(c.p), api.OK)
		waits(t, f, 2, 7, 6)
		is(t, "At", f.At(), 9)
		goes(t, f, c.want)
	}
}

// P21.2
func TestMoved(t *testing.T) {
	a := New(api.Fifo, 10)
	asks(t, a, 25, 31, 31-20, 999)
	goes(t, a, 25)
	is(t, "Moved", a.Moved(), 2+5)
	goes(t, a, 31)
	is(t, "Moved", a.Moved(), 7+1+4)
	goes(t, a, 11)
	is(t, "Moved", a.Moved(), 12+2)
	asks(t, a, 11)
	does(t, "Cancel", a.Cancel(999), api.OK)
	goes(t, a, 11)
	is(t, "Moved to where it stands", a.Moved(), 14)
	does(t, "Set", a.Set(api.Near), api.OK)
	is(t, "Moved", a.Moved(), 14)
}

// P21.2
func TestAll(t *testing.T) {
	for _, c := range []struct {
		p         api.Policy
		per, from int
		l, want   []int
		way       int
	}{
		{api.Fifo, 1, 5, []int{9, 2, 7}, []int{9, 2, 7}, 4 + 7 + 5}, {api.Near, 1, 5, []int{9, 2, 7}, []int{7, 9, 2}, 2 + 2 + 7},
		{api.Scan, 1, 5, []int{9, 2, 7}, []int{7, 9, 2}, 11}, {api.Cyclic, 1, 5, []int{9, 2, 7}, []int{7, 9, 2}, 11},
		{api.Fifo, 1, 5, nil, nil, 0}, {api.Scan, 64, 1023, []int{}, nil, 0}, {api.Near, 64, 0, []int{0}, []int{0}, 0},
		{api.Scan, 10, 55, []int{54, 56, 5, 57}, []int{56, 57, 54, 5}, 1 + 1 + 3 + 5 + 1}, {api.Scan, 10, 1000, []int{999, 1001}, []int{1001, 999}, 1 + 1 + 8},
		{api.Cyclic, 10, 1023, []int{1022, 0}, []int{0, 1022}, 102 + 3 + 102 + 2},
	} {
		l := append(slices.Clone(c.l), 77, 77)[:len(c.l)]
		all, way, e := All(c.p, c.per, c.from, l)
		if !slices.Equal(all, c.want) || way != c.way || e != api.OK {
			t.Error(c, all, way, e)
		}
		if !slices.Equal(l, c.l) || l[:len(l)+1][len(l)] != 77 {
			t.Error("what was handed in changed", l)
		}
		if len(all) > 0 {
			all[0] = -5
			if !slices.Equal(l, c.l) {
				t.Error("the answer lies in what was handed in")
			}
		}
	}
}

// P21.2: those that wait long are old in All, too.
func TestAllOfOld(t *testing.T) {
	l := []int{900, 800}
	want := []int{}
	for block := range api.MaxWait + 3 {
		l = append(l, block)
		want = append(want, block)
	}
	want = slices.Insert(want, api.MaxWait, 900, 800)
	// All that were asked for are as old then, and the rest goes as it was asked.
	all, _, e := All(api.Near, 64, 0, l)
	if !slices.Equal(all, want) || e != api.OK {
		t.Error(all, "not", want)
	}
}

// P21.2
func TestAllOfWrong(t *testing.T) {
	many := make([]int, api.MaxAsked+1)
	for k := range many {
		many[k] = k
	}
	if all, _, e := All(api.Scan, 1, 0, many[1:]); !slices.Equal(all, many[1:]) || e != api.OK {
		t.Error(all, e)
	}
	refused := func(p api.Policy, per, from int, l []int) {
		t.Helper()
		if all, way, e := All(p, per, from, l); len(all) != 0 || way != 0 || e != api.ErrRange {
			t.Error(p, per, from, l, "answers", all, way, e)
		}
	}
	for _, p := range policies {
		refused(p, 1, 0, many)
		refused(p, 1, 0, []int{4, 5, 4})
		for _, n := range wrong {
			refused(p, 5, n, nil)
			refused(p, 5, n, []int{1, 2})
			refused(p, 5, 0, []int{n})
			refused(p, 5, 0, []int{1, n, 2})
		}
		for _, per := range wrongPer {
			refused(p, per, 0, nil)
			refused(p, per, 5, []int{1})
		}
	}
	for _, p := range wrongPolicies {
		refused(p, 5, 0, nil)
		refused(p, 5, 5, []int{1})
	}
}

// P4 of the rules, P21.2
func TestFork(t *testing.T) {
	a := standing(t, api.Scan, 6, 500, 40, 600, 30)
	goes(t, a, 600, 40)
	asks(t, a, 700)
	f := a.Fork()
	if f == nil || f == a || !toldBy(f).same(toldBy(a)) {
		t.Fatal("not the same")
	}
	for _, pair := range [][2]*Arm{{a, f}, {f.Fork(), a}, {a, a.Fork()}, {f, f.Fork()}} {
		one, other := pair[0].Fork(), pair[1]
		before := toldBy(other)
		for _, change := range []func(){
			func() { one.Ask(5) }, func() { one.Cancel(30) }, func() { one.Ask(6) }, func() { one.Next() }, func() { one.Set(api.Fifo) }, func() { one.Next() }, func() { one.Cancel(5) }, func() { one.Next() },
		} {
			change()
			if !before.same(toldBy(other)) {
				t.Error("what became of the one changed the other one")
			}
		}
	}
	// Forks that go on with as many have each its own.
	b, c := a.Fork(), a.Fork()
	asks(t, b, 1)
	asks(t, c, 2)
	asks(t, a, 3)
	waits(t, b, 30, 700, 1)
	waits(t, c, 30, 700, 2)
	waits(t, a, 30, 700, 3)
}

// P3 of the rules: what is answered is the caller's.
func TestAnswered(t *testing.T) {
	a := standing(t, api.Cyclic, 6, 5, 40, 60, 30)
	unchanged(t, a, func() {
		l := a.Waiting()
		l[0], l[1] = 1, 2
		_ = append(l[:1], 9, 9)
		_ = append(l, 3)
	})
}

// P1 of the rules
func TestNil(t *testing.T) {
	var a *Arm
	for _, n := range append([]int{0, 1, 1023}, wrong...) {
		does(t, "Ask", a.Ask(n), api.ErrNil)
		does(t, "Cancel", a.Cancel(n), api.ErrNil)
		is(t, "Age", a.Age(n), -1)
	}
	for p := range 256 {
		does(t, "Set", a.Set(api.Policy(p)), api.ErrNil)
	}
	if block, ok := a.Next(); block != 0 || ok {
		t.Error(block, ok)
	}
	if len(a.Waiting()) != 0 || a.At() != 0 || a.Moved() != 0 || a.Up() || a.Fork() != nil {
		t.Error("nil")
	}
}
