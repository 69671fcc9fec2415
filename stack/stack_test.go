package stack

import (
	"bytes"
	"math"
	"slices"
	"strings"
	"testing"

	"selvedge/api"
)

// dots are a block's bytes of which each is a point.
func dots() []byte {
	return bytes.Repeat([]byte{'.'}, api.BlockSize)
}

// seen is what a block's bytes are, that begin like that and are points then.
func seen(begin string) string {
	return begin + strings.Repeat(".", api.BlockSize-len(begin))
}

// stacked is a stack over points, with these patches pushed one behind the other.
func stacked(t *testing.T, l ...api.Patch) *Stack {
	t.Helper()
	s := New(dots())
	for n, p := range l {
		pushes(t, s, p, n)
	}
	return s
}

// pushes fails the test unless the patch has that number.
func pushes(t *testing.T, s *Stack, p api.Patch, want int) {
	t.Helper()
	if n, e := s.Push(p); n != want || e != api.OK {
		t.Error("Push", p, "answers", n, e, "not", want)
	}
}

// at is a patch of block 0.
func at(off int, data string) api.Patch {
	return api.Patch{Off: off, Data: data}
}

// is fails the test unless these are the bytes, the bytes without any, and those that are on.
func is(t *testing.T, s *Stack, all, base string, on ...int) {
	t.Helper()
	if string(s.Bytes()) != seen(all) || string(s.Base()) != seen(base) {
		t.Errorf("Bytes %q Base %q not %q %q", s.Bytes(), s.Base(), all, base)
	}
	if !slices.Equal(s.Waiting(), on) {
		t.Error("Waiting", s.Waiting(), "not", on)
	}
}

// needs fails the test unless these are what n needs.
func needs(t *testing.T, s *Stack, n int, want ...int) {
	t.Helper()
	if !slices.Equal(s.Needs(n), want) {
		t.Error("Needs", n, "answers", s.Needs(n), "not", want)
	}
}

// under fails the test unless that stood under n.
func under(t *testing.T, s *Stack, n int, want string) {
	t.Helper()
	if b, e := s.Under(n); b != want || e != api.OK {
		t.Errorf("Under %d answers %q %v not %q", n, b, e, want)
	}
}

// gets fails the test unless n is on, and that patch.
func gets(t *testing.T, s *Stack, n int, want api.Patch) {
	t.Helper()
	if p, ok := s.Get(n); p != want || !ok {
		t.Error("Get", n, "answers", p, ok, "not", want)
	}
}

// rolls fails the test unless these are the bytes with just some.
func rolls(t *testing.T, s *Stack, want string, keep ...int) {
	t.Helper()
	if b, e := s.Roll(keep); string(b) != seen(want) || e != api.OK {
		t.Errorf("Roll %v answers %q %v not %q", keep, b, e, want)
	}
}

// refuses fails the test unless each of the calls has that error, answers nothing, and changes nothing.
func refuses(t *testing.T, s *Stack, want api.Errno, some []int) {
	t.Helper()
	was := stateOf(s)
	if b, e := s.Roll(some); b != nil || e != want {
		t.Error("Roll", some, "answers", b, e, "not", want)
	}
	if e := s.Settle(some); e != want {
		t.Error("Settle", some, "answers", e, "not", want)
	}
	if !was.same(stateOf(s)) {
		t.Error("changed by", some)
	}
}

// squashes fails the test unless that is the error; with one nothing may change.
func squashes(t *testing.T, s *Stack, into, n int, want api.Errno) {
	t.Helper()
	was := stateOf(s)
	if e := s.Squash(into, n); e != want {
		t.Error("Squash", into, n, "answers", e, "not", want)
	}
	if want != api.OK && !was.same(stateOf(s)) {
		t.Error("changed by", into, n)
	}
}

// state is all that a stack tells, of each number up to some that are not on.
type state struct {
	all, base []byte
	on, needs []int
	patches   []api.Patch
	under     []string
}

func stateOf(s *Stack) state {
	st := state{all: s.Bytes(), base: s.Base(), on: s.Waiting()}
	for n := range slices.Max(append(s.Waiting(), 0)) + 3 {
		p, _ := s.Get(n)
		was, _ := s.Under(n)
		st.patches, st.under = append(st.patches, p), append(st.under, was)
		st.needs = append(append(st.needs, -1), s.Needs(n)...)
	}
	return st
}

func (s state) same(o state) bool {
	return bytes.Equal(s.all, o.all) && bytes.Equal(s.base, o.base) && slices.Equal(s.on, o.on) &&
		slices.Equal(s.needs, o.needs) && slices.Equal(s.patches, o.patches) && slices.Equal(s.under, o.under)
}

// wrong are patches that can't be.
var wrong = []api.Patch{
	{}, {Off: 3}, {Off: 32, Data: "a"}, {Off: 31, Data: "ab"}, {Off: -1, Data: "a"}, {Off: math.MaxInt, Data: "a"},
	{Block: -1, Data: "a"}, {Block: 96, Data: "a"}, {Data: strings.Repeat("a", 33)}, {Block: math.MinInt, Off: math.MinInt, Data: "a"},
}

// P17.1
func TestNew(t *testing.T) {
	for long := range 2*api.BlockSize + 1 {
		if s := New(make([]byte, long)); (s != nil) != (long == api.BlockSize) {
			t.Error(long, s)
		}
	}
	if New(nil) != nil {
		t.Error("nil")
	}
	b := dots()
	s := New(b[:api.BlockSize:api.BlockSize])
	is(t, s, "", "")
	b[0] = 'x'
	is(t, s, "", "")
}

// P17.1
func TestPush(t *testing.T) {
	s := stacked(t, at(0, "abc"), at(31, "z"), at(1, "X"))
	if b := string(s.Bytes()); b != "aXc"+strings.Repeat(".", 28)+"z" {
		t.Errorf("%q", b)
	}
	if string(s.Base()) != seen("") || !slices.Equal(s.Waiting(), []int{0, 1, 2}) {
		t.Error(s.Base(), s.Waiting())
	}
	was := stateOf(s)
	for _, p := range wrong {
		if n, e := s.Push(p); n != 0 || e != api.ErrForm {
			t.Error(p, n, e)
		}
		if !was.same(stateOf(s)) {
			t.Error("changed", p)
		}
	}
	pushes(t, s, api.Patch{Block: 95, Data: strings.Repeat("y", 32)}, 3)
	if string(s.Bytes()) != strings.Repeat("y", 32) {
		t.Error(s.Bytes())
	}
}

// P17.1
func TestPushTooMany(t *testing.T) {
	s := New(dots())
	for n := range api.MaxPending {
		pushes(t, s, at(n%32, "ab"[n%2:n%2+1]), n)
	}
	was := stateOf(s.Fork())
	if n, e := s.Push(at(0, "c")); n != 0 || e != api.ErrFull {
		t.Error(n, e)
	}
	for _, p := range wrong {
		if n, e := s.Push(p); n != 0 || e != api.ErrForm {
			t.Error(p, n, e)
		}
	}
	if !was.same(stateOf(s)) {
		t.Error("changed")
	}
	for n := range 3 {
		s.Pop()
		pushes(t, s, at(0, "c"), api.MaxPending+n)
	}
	if e := s.Settle([]int{0}); e != api.OK {
		t.Error(e)
	}
	pushes(t, s, at(0, "c"), api.MaxPending+3)
	if e := s.Squash(1, 33); e != api.OK {
		t.Error(e)
	}
	pushes(t, s, at(0, "c"), api.MaxPending+4)
	if n, e := s.Push(at(0, "c")); n != 0 || e != api.ErrFull || len(s.Waiting()) != api.MaxPending {
		t.Error(n, e)
	}
}

// P17.1
func TestPop(t *testing.T) {
	s := New(dots())
	none := func() {
		t.Helper()
		if p, e := s.Pop(); p != (api.Patch{}) || e != api.ErrNoent {
			t.Error(p, e)
		}
	}
	pops := func(want api.Patch) {
		t.Helper()
		if p, e := s.Pop(); p != want || e != api.OK {
			t.Error(p, e, "not", want)
		}
	}
	none()
	pushes(t, s, at(0, "ab"), 0)
	pushes(t, s, api.Patch{Block: 7, Off: 1, Data: "XY"}, 1)
	is(t, s, "aXY", "", 0, 1)
	pops(api.Patch{Block: 7, Off: 1, Data: "XY"})
	is(t, s, "ab", "", 0)
	pushes(t, s, at(2, "c"), 2)
	is(t, s, "abc", "", 0, 2)
	if e := s.Settle([]int{0}); e != api.OK {
		t.Error(e)
	}
	is(t, s, "abc", "ab", 2)
	pops(at(2, "c"))
	none()
	is(t, s, "ab", "ab")
	pushes(t, s, at(0, "x"), 3)
	is(t, s, "xb", "ab", 3)
}

// P17.2, example 1
func TestRoll(t *testing.T) {
	s := stacked(t, at(0, "ab"), at(1, "x"))
	needs(t, s, 1, 0)
	refuses(t, s, api.ErrBusy, []int{1})
	rolls(t, s, "", nil...)
	rolls(t, s, "ab", 0)
	rolls(t, s, "ax", 0, 1)
	rolls(t, s, "ax", 1, 0, 0, 1, 0)
	// 2 needs nothing below; 3 needs 2 alone, 4 needs 1 and 3, and 0 is needed by 1.
	s = stacked(t, at(0, "aa"), at(1, "bb"), at(4, "cc"), at(3, "dd"), api.Patch{Block: 9, Off: 2, Data: "ee"})
	needs(t, s, 0)
	needs(t, s, 1, 0)
	needs(t, s, 2)
	needs(t, s, 3, 2)
	needs(t, s, 4, 1, 3)
	rolls(t, s, "....cc", 2)
	rolls(t, s, "...ddc", 3, 2)
	rolls(t, s, "aa.ddc", 3, 2, 0)
	rolls(t, s, "abbddc", 3, 2, 0, 1)
	rolls(t, s, "abeedc", 4, 3, 2, 1, 0)
	for _, some := range [][]int{{1}, {3}, {4}, {0, 3}, {4, 1, 3}, {4, 1, 0, 3}, {4, 1, 3, 2}} {
		refuses(t, s, api.ErrBusy, some)
	}
	for _, n := range []int{-1, 5, math.MaxInt, math.MinInt, -5} {
		refuses(t, s, api.ErrRange, []int{n})
		refuses(t, s, api.ErrRange, []int{0, 1, 2, n})
		refuses(t, s, api.ErrRange, []int{1, n})
		refuses(t, s, api.ErrRange, []int{n, 4})
	}
	s.Pop()
	refuses(t, s, api.ErrRange, []int{4})
	is(t, s, "abbddc", "", 0, 1, 2, 3)
}

// P17.2
func TestSettle(t *testing.T) {
	s := stacked(t, at(0, "aa"), at(1, "bb"), at(4, "cc"), at(3, "dd"), at(2, "ee"))
	settles := func(some ...int) {
		t.Helper()
		if e := s.Settle(some); e != api.OK {
			t.Error("Settle", some, "answers", e)
		}
	}
	settles()
	is(t, s, "abeedc", "", 0, 1, 2, 3, 4)
	settles(2, 0, 2)
	is(t, s, "abeedc", "aa..cc", 1, 3, 4)
	needs(t, s, 1)
	needs(t, s, 3)
	needs(t, s, 4, 1, 3)
	under(t, s, 1, "a.")
	under(t, s, 3, ".c")
	under(t, s, 4, "bd")
	for _, n := range []int{0, 2} {
		refuses(t, s, api.ErrRange, []int{n})
		if _, ok := s.Get(n); ok {
			t.Error(n)
		}
		needs(t, s, n)
	}
	refuses(t, s, api.ErrBusy, []int{4, 1})
	settles(1)
	is(t, s, "abeedc", "abb.cc", 3, 4)
	refuses(t, s, api.ErrBusy, []int{4})
	settles(4, 3)
	is(t, s, "abeedc", "abeedc")
	settles()
	refuses(t, s, api.ErrRange, []int{4})
	pushes(t, s, at(0, "z"), 5)
	under(t, s, 5, "a")
}

// P17.2: what does not write the same byte does not need, however near it is; which Block a patch says is of no matter.
func TestNeeds(t *testing.T) {
	mine := api.Patch{Block: 3, Off: 8, Data: "mmmm"}
	for off := range 20 {
		for long := 1; long <= 8; long++ {
			s := stacked(t, api.Patch{Block: off, Off: off, Data: strings.Repeat("n", long)}, mine)
			if off+long > 8 && off < 12 {
				needs(t, s, 1, 0)
			} else {
				needs(t, s, 1)
			}
			needs(t, s, 0)
		}
	}
	s := stacked(t, at(0, "a"), at(0, "b"), at(1, "c"), at(0, "dd"))
	needs(t, s, 1, 0)
	needs(t, s, 2)
	needs(t, s, 3, 0, 1, 2)
	for _, n := range []int{-1, 4, math.MaxInt, math.MinInt} {
		needs(t, s, n)
	}
	s.Pop()
	needs(t, s, 3)
}

// P17.2
func TestUnder(t *testing.T) {
	s := stacked(t, at(1, "abc"), at(0, "XY"), at(2, "1234"), at(0, "zzzzzz"))
	under(t, s, 0, "...")
	under(t, s, 1, ".a")
	under(t, s, 2, "bc..")
	under(t, s, 3, "XY1234")
	for _, n := range []int{-1, 4, math.MaxInt, math.MinInt} {
		if b, e := s.Under(n); b != "" || e != api.ErrNoent {
			t.Error(n, b, e)
		}
	}
	s.Pop()
	if b, e := s.Under(3); b != "" || e != api.ErrNoent {
		t.Error(b, e)
	}
	pushes(t, s, at(31, "e"), 4)
	under(t, s, 4, ".")
}

// P17.2
func TestGet(t *testing.T) {
	p := api.Patch{Block: 95, Off: 31, Data: "\x00"}
	s := stacked(t, at(0, "a"), p)
	gets(t, s, 0, at(0, "a"))
	gets(t, s, 1, p)
	for _, n := range []int{-1, 2, math.MaxInt, math.MinInt} {
		if p, ok := s.Get(n); p != (api.Patch{}) || ok {
			t.Error(n, p, ok)
		}
	}
	s.Pop()
	if p, ok := s.Get(1); p != (api.Patch{}) || ok {
		t.Error(p, ok)
	}
}

// P17.3, example 1
func TestSquash(t *testing.T) {
	s := stacked(t, at(0, "ab"), at(1, "x"))
	squashes(t, s, 0, 1, api.OK)
	gets(t, s, 0, at(0, "ax"))
	is(t, s, "ax", "", 0)
	pushes(t, s, at(0, "y"), 2)
	needs(t, s, 2, 0)
	under(t, s, 2, "a")
	// Side by side, on both ends; of another Block; the one that is put in above others that it does not meet.
	s = stacked(t, api.Patch{Block: 4, Off: 2, Data: "ab"}, at(8, "cc"), api.Patch{Block: 5, Off: 4, Data: "d"}, at(20, "e"), at(1, "f"))
	squashes(t, s, 0, 2, api.OK)
	gets(t, s, 0, api.Patch{Block: 4, Off: 2, Data: "abd"})
	squashes(t, s, 0, 4, api.OK)
	gets(t, s, 0, api.Patch{Block: 4, Off: 1, Data: "fabd"})
	is(t, s, ".fabd...cc..........e", "", 0, 1, 3)
	if _, ok := s.Get(2); ok {
		t.Error("it is still on")
	}
	under(t, s, 0, "....")
	// What is above the place where it was now needs the one that it went into.
	s = stacked(t, at(0, "a"), at(1, "b"), at(1, "c"))
	needs(t, s, 2, 1)
	squashes(t, s, 0, 1, api.OK)
	needs(t, s, 2, 0)
	under(t, s, 2, "b")
	refuses(t, s, api.ErrBusy, []int{2})
	rolls(t, s, "ab", 0)
	rolls(t, s, "ac", 0, 2)
}

// P17.3
func TestSquashRefused(t *testing.T) {
	for _, l := range [][2]int{{0, 0}, {1, 0}, {2, 1}, {2, 2}} {
		squashes(t, stacked(t, at(0, "a"), at(0, "b"), at(0, "c")), l[0], l[1], api.ErrRange)
	}
	s := stacked(t, at(0, "a"), at(0, "b"))
	for _, n := range []int{-1, 2, math.MaxInt, math.MinInt} {
		squashes(t, s, n, 0, api.ErrNoent)
		squashes(t, s, 0, n, api.ErrNoent)
		squashes(t, s, n, n, api.ErrNoent)
		squashes(t, s, n, 1, api.ErrNoent)
	}
	// One between needs the lower one; is needed by the upper one; both; neither.
	squashes(t, stacked(t, at(0, "ab"), at(0, "x"), at(1, "c")), 0, 2, api.ErrBusy)
	squashes(t, stacked(t, at(0, "ab"), at(2, "x"), at(1, "cd")), 0, 2, api.ErrBusy)
	squashes(t, stacked(t, at(0, "a"), at(0, "x"), at(0, "b")), 0, 2, api.ErrBusy)
	squashes(t, stacked(t, at(0, "ab"), at(3, "x"), at(1, "cd")), 0, 2, api.OK)
	squashes(t, stacked(t, at(0, "ab"), api.Patch{Block: 6, Data: "x"}, at(1, "c")), 0, 2, api.ErrBusy)
	// One between that stands against it goes ahead of what can't be joined; one outside is of no matter.
	squashes(t, stacked(t, at(0, "a"), at(0, "x"), at(5, "b")), 0, 2, api.ErrBusy)
	squashes(t, stacked(t, at(0, "a"), at(5, "x"), at(5, "b")), 0, 2, api.ErrBusy)
	squashes(t, stacked(t, at(0, "a"), at(2, "b")), 0, 1, api.ErrForm)
	squashes(t, stacked(t, at(31, "a"), at(0, "b")), 0, 1, api.ErrForm)
	squashes(t, stacked(t, at(0, "aaa"), at(0, "bb"), at(1, "cc"), at(0, "ddd")), 1, 2, api.OK)
	// One that went is not between.
	s = stacked(t, at(0, "a"), at(0, "b"))
	s.Pop()
	pushes(t, s, at(0, "c"), 2)
	squashes(t, s, 0, 1, api.ErrNoent)
	squashes(t, s, 0, 2, api.OK)
	is(t, s, "c", "", 0)
}

// P17.3, P4
func TestFork(t *testing.T) {
	one := stacked(t, at(0, "aa"), at(1, "bb"), at(5, "cc"), at(6, "dd"))
	change := func(s *Stack) {
		s.Squash(0, 1)
		s.Settle([]int{2})
		s.Pop()
		s.Push(at(9, "new"))
	}
	was := stateOf(one)
	other := one.Fork()
	if !was.same(stateOf(other)) {
		t.Error("not the same")
	}
	change(other)
	if !was.same(stateOf(one)) || was.same(stateOf(other)) {
		t.Error("a change of the fork")
	}
	then := stateOf(other)
	change(one)
	if !then.same(stateOf(one)) || !then.same(stateOf(other)) {
		t.Error("the same done to both")
	}
	one.Pop()
	if !then.same(stateOf(other)) {
		t.Error("a change of the first one")
	}
	pushes(t, one, at(0, "x"), 5)
	pushes(t, other, at(0, "x"), 5)
}

// P1, P2
func TestNil(t *testing.T) {
	var s *Stack
	if n, e := s.Push(at(0, "a")); n != 0 || e != api.ErrNil {
		t.Error(n, e)
	}
	if n, e := s.Push(api.Patch{}); n != 0 || e != api.ErrNil {
		t.Error(n, e)
	}
	if p, e := s.Pop(); p != (api.Patch{}) || e != api.ErrNil {
		t.Error(p, e)
	}
	for _, l := range [][]int{nil, {0}, {-1}} {
		if b, e := s.Roll(l); b != nil || e != api.ErrNil {
			t.Error(b, e)
		}
		if e := s.Settle(l); e != api.ErrNil {
			t.Error(e)
		}
	}
	if e := s.Squash(0, 1); e != api.ErrNil {
		t.Error(e)
	}
	if b, e := s.Under(0); b != "" || e != api.ErrNil {
		t.Error(b, e)
	}
	if p, ok := s.Get(0); p != (api.Patch{}) || ok {
		t.Error(p, ok)
	}
	if len(s.Bytes()) != 0 || len(s.Base()) != 0 || len(s.Waiting()) != 0 || len(s.Needs(0)) != 0 || s.Fork() != nil {
		t.Error("of nil")
	}
}

// P3: what is handed in stays; what is answered is the caller's.
func TestHandedOver(t *testing.T) {
	s := stacked(t, at(0, "ab"), at(1, "cd"), at(2, "ef"))
	was := stateOf(s)
	some := append(make([]int, 0, 8), 2, 0, 1)
	rolls(t, s, "acef", some...)
	if e := s.Fork().Settle(some); e != api.OK || !slices.Equal(some[:8], []int{2, 0, 1, 0, 0, 0, 0, 0}) {
		t.Error(e, some[:8])
	}
	b, _ := s.Roll(some)
	for _, l := range [][]byte{s.Bytes(), s.Base(), b} {
		for i := range l[:cap(l)] {
			l[:cap(l)][i] = '!'
		}
	}
	for _, l := range [][]int{s.Waiting(), s.Needs(2)} {
		for i := range l[:cap(l)] {
			l[:cap(l)][i] = 77
		}
	}
	if !was.same(stateOf(s)) {
		t.Error("changed")
	}
}
