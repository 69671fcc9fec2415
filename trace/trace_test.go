package trace

import (
	"bytes"
	"math"
	"slices"
	"strings"
	"testing"

	"selvedge/api"
	"selvedge/image"
	"selvedge/stitch"
	"selvedge/tree"
)

// of is an event of a kind, with as many numbers as it has.
func of(k api.EventKind, numbers ...int) api.Event {
	e := api.Event{Kind: k}
	for i, n := range numbers {
		*[]*int{&e.N, &e.M}[i] = n
	}
	return e
}

func did(o api.Op) api.Event { return api.Event{Kind: api.Did, Op: o} }

// create, mkdir and so on are events of operations.
func create(path string) api.Event   { return did(api.Op{Kind: api.Create, Path: path}) }
func mkdir(path string) api.Event    { return did(api.Op{Kind: api.Mkdir, Path: path}) }
func unlink(path string) api.Event   { return did(api.Op{Kind: api.Unlink, Path: path}) }
func rmdir(path string) api.Event    { return did(api.Op{Kind: api.Rmdir, Path: path}) }
func truncate(path string) api.Event { return did(api.Op{Kind: api.Truncate, Path: path}) }
func link(path, other string) api.Event {
	return did(api.Op{Kind: api.Link, Path: path, Other: other})
}
func rename(path, other string) api.Event {
	return did(api.Op{Kind: api.Rename, Path: path, Other: other})
}
func write(path string, off int, data string) api.Event {
	return did(api.Op{Kind: api.Write, Path: path, Off: off, Data: data})
}

var (
	flush = of(api.Flushed)
	sync  = of(api.Synced)
	crash = of(api.Crashed)
	group = of(api.Grouped)
)

// numbered are the kinds of one number, plain those of none.
var (
	numbered = []api.EventKind{api.Wrote, api.EngagedIn, api.DisengagedOf, api.ReleasedOf}
	plain    = []api.EventKind{api.Flushed, api.Synced, api.Crashed, api.Grouped}
)

// unsafe are events behind which a crash would leave what is no image (a name is made again at an earlier place of its directory, and the patch that takes it from the later one does not last yet): nothing can be mounted then.
func unsafe() []api.Event {
	return []api.Event{create("/a"), create("/b"), create("/c"), create("/d"), create("/e"), sync, unlink("/a"), unlink("/e"), link("/b", "/e"), of(api.Wrote, 4), flush, of(api.Wrote, 11), flush}
}

// wrongEvents are events that are not right.
func wrongEvents() []api.Event {
	l := []api.Event{
		{}, of(api.NoEvent, 1), of(api.ReleasedOf + 1), of(99), of(255), {Op: create("/a").Op},
		of(api.Did), create("/"), create("a"), create(""), create("/a b"), create("/A"), create("/longerst"), create("/a/b/c/d/e"), link("/a", "/"), link("/a", ""), write("/a", 0, ""), write("/a", -1, "x"), write("/a", 257, "x"), write("/a", 0, strings.Repeat("x", 65)), did(api.Op{Kind: api.Create, Path: "/a", Other: "/b"}), did(api.Op{Kind: 9, Path: "/a"}), did(api.Op{Path: "/a"}),
	}
	far := []int{-1, -2, 100, 101, math.MinInt, math.MaxInt, 1 << 32, 1<<32 + 1, 256, -255}
	for _, n := range far {
		for _, k := range numbered {
			l = append(l, of(k, n), of(k, n, n), of(k, 0, n))
		}
		for _, k := range plain {
			l = append(l, of(k, n), of(k, 0, n))
		}
		l = append(l, of(api.Depended, n), of(api.Depended, 0, n), of(api.Depended, n, n))
		l = append(l, api.Event{Kind: api.Did, Op: create("/a").Op, N: n}, api.Event{Kind: api.Did, Op: create("/a").Op, M: n})
	}
	for _, k := range slices.Concat(numbered, plain, []api.EventKind{api.Depended}) {
		for _, o := range []api.Op{create("/a").Op, {Kind: api.Create}, {Path: "/a"}, {Other: "/a"}, {Off: 1}, {Data: "x"}} {
			l = append(l, api.Event{Kind: k, Op: o})
		}
	}
	for _, k := range numbered {
		l = append(l, of(k, 1, 1), of(k, 0, 1), of(k, 99, 99))
	}
	for _, k := range plain {
		l = append(l, of(k, 1), of(k, 0, 1), of(k, 1, 1))
	}
	return append(l, api.Event{Kind: api.Did, Op: create("/a").Op, N: 1}, api.Event{Kind: api.Did, Op: create("/a").Op, M: 1})
}

// rightEvents are events that are right.
func rightEvents() []api.Event {
	l := []api.Event{
		create("/a"), mkdir("/a/b/c/d"), unlink("/longest"), rmdir("/0-"), truncate("/a"), link("/a", "/a"), rename("/a/b", "/c"), write("/a", 256, "x"), write("/a", 0, strings.Repeat("\x00", 64)),
	}
	for _, n := range []int{0, 1, 9, 10, 98, 99} {
		for _, k := range numbered {
			l = append(l, of(k, n))
		}
		l = append(l, of(api.Depended, n, 0), of(api.Depended, 0, n), of(api.Depended, n, 99-n), of(api.Depended, n, n))
	}
	for _, k := range plain {
		l = append(l, of(k))
	}
	return l
}

// P25.1
func TestRight(t *testing.T) {
	for _, e := range rightEvents() {
		if !Right(e) {
			t.Error("is right", e)
		}
	}
	for _, e := range wrongEvents() {
		if Right(e) {
			t.Error("is not right", e)
		}
	}
}

// P25.1
func TestPrintAndParse(t *testing.T) {
	for _, c := range []struct {
		l    []api.Event
		text string
	}{
		{nil, ""},
		{[]api.Event{create("/a"), crash}, "do create /a\ncrash\n"},
		{[]api.Event{create("/a"), mkdir("/d/e"), link("/a", "/b"), unlink("/a"), rmdir("/d/e"), rename("/b", "/c"), write("/c", 12, "a b"), truncate("/c")},
			"do create /a\ndo mkdir /d/e\ndo link /a /b\ndo unlink /a\ndo rmdir /d/e\ndo rename /b /c\ndo write /c 12 \"a%20b\"\ndo cut /c\n"},
		{[]api.Event{write("/a", 0, "\n\" %~\x00\xff")}, "do write /a 0 \"%0a%22%20%25~%00%ff\"\n"},
		{[]api.Event{of(api.Wrote, 7), flush, sync, crash, group, of(api.Depended, 2, 1), of(api.EngagedIn, 3), of(api.DisengagedOf, 4), of(api.ReleasedOf, 5)},
			"write 7\nflush\nsync\ncrash\ngroup\ndepend 2 1\nengage 3\nrest 4\nrelease 5\n"},
		{[]api.Event{of(api.Wrote, 0), of(api.Wrote, 99), of(api.Depended, 0, 0), of(api.Depended, 99, 10), of(api.Depended, 0, 99)}, "write 0\nwrite 99\ndepend 0 0\ndepend 99 10\ndepend 0 99\n"},
		{[]api.Event{sync, sync}, "sync\nsync\n"},
		{slices.Repeat([]api.Event{flush}, 200), strings.Repeat("flush\n", 200)},
		{slices.Repeat([]api.Event{write("/longest/longest/longest/longest", 256, strings.Repeat("\x00", 64))}, 200), strings.Repeat("do write /longest/longest/longest/longest 256 \""+strings.Repeat("%00", 64)+"\"\n", 200)},
	} {
		if got, e := Print(c.l); got != c.text || e != api.OK {
			t.Errorf("%v %q %v", c.l, got, e)
		}
		if got, e := Parse(c.text); !slices.Equal(got, c.l) || e != api.OK {
			t.Errorf("%q %v %v", c.text, got, e)
		}
	}
	for _, e := range rightEvents() {
		text, _ := Print([]api.Event{e})
		if got, r := Parse(text); r != api.OK || !slices.Equal(got, []api.Event{e}) {
			t.Errorf("%v %q %v %v", e, text, got, r)
		}
	}
}

// P25.1
func TestPrintRefuses(t *testing.T) {
	for _, wrong := range wrongEvents() {
		for _, l := range [][]api.Event{{wrong}, {wrong, flush}, {flush, wrong}, {flush, wrong, flush}, {wrong, wrong}} {
			if got, e := Print(l); got != "" || e != api.ErrForm {
				t.Error(l, got, e)
			}
		}
	}
	for _, many := range []int{201, 202, 400, 5000} {
		if got, e := Print(slices.Repeat([]api.Event{flush}, many)); got != "" || e != api.ErrForm {
			t.Error(many, len(got), e)
		}
	}
}

// P25.1
func TestParseRefuses(t *testing.T) {
	for _, wrong := range []string{
		"\n", " ", " \n", "\n\n", "flush", "flush \n", " flush\n", "flush\r\n", "flush\n\n", "\nflush\n", "flush\nflush", "flush\n ", "flush\nx", "flush\n\x00", "Flush\n", "FLUSH\n", "flus\n", "flushed\n", "flush 0\n", "flush 1\n", "flush\t\n", "flush\x00", "flush flush\n",
		"sync 1\n", "sync \n", "crash 0\n", "crash  \n", "group 1\n", "group \n", "none\n", "noevent\n", "0\n", "1\n", "disengage 1\n", "dep 2 1\n", "off 1\n", "on 1\n", "free 1\n", "\xff\n", "\x00\n", "wrote 1\n",
		"write\n", "write \n", "write  \n", "write  1\n", "write 1 \n", "write 1 0\n", "write 1 2\n", "write 00\n", "write 01\n", "write -1\n", "write -0\n", "write +1\n", "write 100\n", "write 1000\n", "write 0x1\n", "write 1_0\n", "write 1.0\n", "write 1e1\n", "write a\n", "write \u0661\n", "write 99999999999999999999\n", "write 18446744073709551616\n", "write 18446744073709551617\n", "write 4294967296\n", "write 9223372036854775807\n", "write -9223372036854775808\n", "write /a 0 \"x\"\n", "write \"1\"\n", "write1\n", "write\t1\n", "write 1\t\n", "write\u00a01\n",
		"engage\n", "engage -1\n", "engage 100\n", "engage 01\n", "engage 1 1\n", "rest\n", "rest 100\n", "rest 1 0\n", "release\n", "release 100\n", "release x\n", "release 1 \n",
		"depend\n", "depend \n", "depend 1\n", "depend 1 \n", "depend  1\n", "depend  1 2\n", "depend 1  2\n", "depend 1 2 \n", "depend 1 2 3\n", "depend 01 2\n", "depend 1 02\n", "depend -1 2\n", "depend 1 -2\n", "depend 100 2\n", "depend 1 100\n", "depend 1,2\n", "depend x 2\n", "depend 1 x\n", "depend 1 +2\n", "depend 12\n", "depend 1 99999999999999999999\n",
		"do\n", "do \n", "do  \n", "do x\n", "create /a\n", "do create\n", "do create \n", "do create /\n", "do create a\n", "do create /A\n", "do create /a \n", "do  create /a\n", "do create  /a\n", " do create /a\n", "do create /a /b\n", "do do create /a\n", "do create /a do create /b\n", "do link /a\n", "do link /a /b /c\n", "do rename /a /\n", "do truncate /a\n", "do flush\n", "do sync\n", "Do create /a\n", "do\tcreate /a\n",
		"do write /a 0 x\n", "do write /a 0 \"\"\n", "do write /a 00 \"x\"\n", "do write /a 257 \"x\"\n", "do write /a 0 \"x y\"\n", "do write /a 0 \"%78\"\n", "do write /a 0 \"%0A\"\n", "do write /a 0 \"x\"y\n", "do write /a 0 \"" + strings.Repeat("x", 65) + "\"\n", "do create /a\ncreate /b\n", "do create /a\r\ndo create /b\n",
		strings.Repeat("flush\n", 201), strings.Repeat("flush\n", 200) + "x", strings.Repeat("flush\n", 200) + "\n", strings.Repeat("\n", 100000), strings.Repeat("do create /a\n", 5000), "write " + strings.Repeat("1", 100000) + "\n", strings.Repeat(" ", 100000), "do create /" + strings.Repeat("a", 100000) + "\n", strings.Repeat("flush", 100000),
	} {
		if got, e := Parse(wrong); got != nil || e != api.ErrForm {
			t.Errorf("%.60q %v %v", wrong, got, e)
		}
	}
}

// told is all that a system tells.
type told struct {
	img, crash, picked [][]byte
	waiting            int
	states             []api.GroupState
}

func tell(s *stitch.System) told {
	is := told{img: s.Image(), crash: s.Crash(nil), picked: s.Crash(slices.Repeat([]int{1}, 96)), waiting: s.Waiting()}
	for n := range 20 {
		is.states = append(is.states, s.State(n))
	}
	return is
}

func same(a, b [][]byte) bool { return slices.EqualFunc(a, b, bytes.Equal) }

func (a told) same(b told) bool {
	return same(a.img, b.img) && same(a.crash, b.crash) && same(a.picked, b.picked) && a.waiting == b.waiting && slices.Equal(a.states, b.states)
}

// after is a system behind events, all of which can be.
func after(t *testing.T, l ...api.Event) *stitch.System {
	t.Helper()
	s, errs := Play(32, l)
	for i, e := range errs {
		if e != api.OK {
			t.Fatal(l[i], "has", e)
		}
	}
	if s == nil {
		t.Fatal("no system")
	}
	return s
}

// P25.2: each kind is the system's call, on the system itself.
func TestApply(t *testing.T) {
	ahead := []api.Event{create("/a"), sync, group, group, of(api.ReleasedOf, 1), write("/a", 0, "x"), create("/b")}
	for _, c := range []struct {
		event api.Event
		call  func(s *stitch.System) api.Errno
		want  api.Errno
	}{
		{create("/c"), func(s *stitch.System) api.Errno { return s.Do(api.Op{Kind: api.Create, Path: "/c"}) }, api.OK},
		{create("/a"), func(s *stitch.System) api.Errno { return s.Do(api.Op{Kind: api.Create, Path: "/a"}) }, api.ErrExist},
		{unlink("/c"), func(s *stitch.System) api.Errno { return s.Do(api.Op{Kind: api.Unlink, Path: "/c"}) }, api.ErrNoent},
		{write("/a", 2, "x"), func(s *stitch.System) api.Errno { return s.Do(write("/a", 2, "x").Op) }, api.ErrRange},
		{of(api.Wrote, 1), func(s *stitch.System) api.Errno { return s.Write(1) }, api.OK},
		{of(api.Wrote, 0), func(s *stitch.System) api.Errno { return s.Write(0) }, api.OK},
		{of(api.Wrote, 32), func(s *stitch.System) api.Errno { return s.Write(32) }, api.ErrRange},
		{flush, func(s *stitch.System) api.Errno { return s.Flush() }, api.OK},
		{sync, func(s *stitch.System) api.Errno { return s.Sync() }, api.OK},
		{group, func(s *stitch.System) api.Errno { _, e := s.Group(); return e }, api.OK},
		{of(api.Depended, 2, 1), func(s *stitch.System) api.Errno { return s.Depend(2, 1) }, api.OK},
		{of(api.Depended, 1, 2), func(s *stitch.System) api.Errno { return s.Depend(1, 2) }, api.ErrState},
		{of(api.Depended, 2, 0), func(s *stitch.System) api.Errno { return s.Depend(2, 0) }, api.ErrNoent},
		{of(api.EngagedIn, 2), func(s *stitch.System) api.Errno { return s.Engage(2) }, api.OK},
		{of(api.EngagedIn, 1), func(s *stitch.System) api.Errno { return s.Engage(1) }, api.ErrState},
		{of(api.DisengagedOf, 2), func(s *stitch.System) api.Errno { return s.Disengage(2) }, api.ErrState},
		{of(api.DisengagedOf, 99), func(s *stitch.System) api.Errno { return s.Disengage(99) }, api.ErrNoent},
		{of(api.ReleasedOf, 2), func(s *stitch.System) api.Errno { return s.Release(2) }, api.OK},
		{of(api.ReleasedOf, 1), func(s *stitch.System) api.Errno { return s.Release(1) }, api.ErrState},
	} {
		s, other := after(t, ahead...), after(t, ahead...)
		got, e := Apply(s, c.event)
		if r := c.call(other); e != r || e != c.want || got != s {
			t.Error(c.event, e, "not", r, got == s)
		}
		if !tell(s).same(tell(other)) {
			t.Error(c.event, "is another one than the call")
		}
	}
}

// P25.2: groups in turn; what is done in one comes behind what was done in the other.
func TestApplyGroups(t *testing.T) {
	s := after(t, create("/a"), sync, group, of(api.EngagedIn, 1), write("/a", 0, "x"), of(api.DisengagedOf, 1), of(api.EngagedIn, 1), of(api.DisengagedOf, 1), of(api.ReleasedOf, 1), group, of(api.Depended, 2, 1), of(api.EngagedIn, 2), rename("/a", "/b"))
	if s.State(1) != api.Released || s.State(2) != api.Engaged {
		t.Error(s.State(1), s.State(2))
	}
	Apply(s, of(api.Wrote, 3))
	Apply(s, flush)
	Apply(s, of(api.Wrote, 11))
	Apply(s, flush)
	s, e := Apply(s, crash)
	if _, ok := tree.Get(s.Tree(), "/b"); ok || e != api.OK {
		t.Error("the later group is there ahead of the other one", s.Tree(), e)
	}
}

// P25.2: nil of nil; what is not right changes nothing.
func TestApplyRefuses(t *testing.T) {
	for _, l := range [][]api.Event{rightEvents(), wrongEvents()} {
		for _, event := range l {
			if s, e := Apply(nil, event); s != nil || e != api.ErrNil {
				t.Error("nil", event, s, e)
			}
		}
	}
	s := after(t, create("/a"), group, of(api.EngagedIn, 1), write("/a", 0, "x"))
	was := tell(s)
	for _, event := range wrongEvents() {
		if got, e := Apply(s, event); got != s || e != api.ErrForm {
			t.Error(event, got == s, e)
		}
	}
	if !was.same(tell(s)) {
		t.Error("what is not right changes something")
	}
}

// P25.2: a crash picks nothing, and is mounted; the groups are gone; the system that crashed is as it was.
func TestApplyCrash(t *testing.T) {
	s := after(t, create("/a"), sync, group, of(api.EngagedIn, 1), write("/a", 0, "x"), create("/b"), of(api.Wrote, 2), of(api.Wrote, 1), of(api.Wrote, 12))
	was := tell(s)
	got, e := Apply(s, crash)
	if e != api.OK || got == s || got == nil || !was.same(tell(s)) {
		t.Fatal(e, got == s)
	}
	want := stitch.Mount(s.Crash(nil))
	if !tell(got).same(tell(want)) || got.State(1) != api.NoGroup || got.Waiting() != 0 {
		t.Error("behind the crash", got.Tree(), got.State(1), got.Waiting())
	}
	if l := got.Tree(); len(l) != 2 || l[1].Data != "" {
		t.Error(l)
	}
	// What becomes of the one changes nothing of the other one.
	Apply(got, create("/c"))
	Apply(got, sync)
	if !was.same(tell(s)) {
		t.Error("the system behind the crash shares something")
	}
}

// P25.2: what can't be mounted is no system, and nothing can be done then.
func TestNothingToMount(t *testing.T) {
	l := append(unsafe(), crash, create("/x"), sync, of(api.Wrote, 100), crash)
	s, errs := Play(32, l)
	want := append(make([]api.Errno, 14), api.ErrNil, api.ErrNil, api.ErrNil, api.ErrNil)
	if s != nil || !slices.Equal(errs, want) {
		t.Error(s, errs)
	}
	// Of a crash that leaves no image no path would be there; of no system there is none.
	lost, e := Lost(32, l)
	if e != api.OK || !slices.Equal(lost[5:], []int{0, 0, 0, 1, 1, 1, 1, 5, 0, 0, 0, 0, 0}) {
		t.Error(lost, e)
	}
	settled, e := Settled(32, l)
	if e != api.OK || !slices.Equal(settled, l[:14]) {
		t.Error(settled, e)
	}
	// Without the last write the image is safe, and the root there; so that one stays, and what makes it so.
	left, e := Shrink(32, l, "/")
	if e != api.OK || !slices.Equal(left, shrunk(32, l, "/")) || len(left) < 8 || left[len(left)-1] != crash {
		t.Error(left, e)
	}
}

// P25.2
func TestPlay(t *testing.T) {
	for _, blocks := range []int{16, 17, 64, 95, 96} {
		s, errs := Play(blocks, nil)
		if s == nil || len(errs) != 0 || len(s.Image()) != blocks || !tell(s).same(tell(stitch.New(blocks))) {
			t.Error(blocks, errs)
		}
	}
	l := []api.Event{create("/a"), create("/a"), {}, write("/a", 0, "x"), of(api.Wrote, 99), of(api.Wrote, 100), group, of(api.EngagedIn, 1), of(api.EngagedIn, 1), rmdir("/a"), crash, unlink("/a")}
	s, errs := Play(20, l)
	if want := []api.Errno{api.OK, api.ErrExist, api.ErrForm, api.OK, api.ErrRange, api.ErrForm, api.OK, api.OK, api.ErrState, api.ErrNotdir, api.OK, api.ErrNoent}; !slices.Equal(errs, want) {
		t.Error(errs)
	}
	if len(s.Tree()) != 1 || s.State(1) != api.NoGroup {
		t.Error(s.Tree())
	}
	s, errs = Play(16, []api.Event{mkdir("/d"), create("/d/a"), write("/d/a", 0, strings.Repeat("x", 64)), write("/d/a", 64, strings.Repeat("x", 33))})
	if !slices.Equal(errs, []api.Errno{0, 0, 0, api.ErrSpace}) || len(s.Tree()) != 3 {
		t.Error(errs)
	}
	s, errs = Play(96, slices.Repeat([]api.Event{group}, 200))
	if len(errs) != 200 || errs[7] != api.OK || errs[8] != api.ErrFull || errs[199] != api.ErrFull || s.State(8) != api.Fresh {
		t.Error(errs)
	}
}

// P25.2, P25.3: what can't be played.
func TestNoPlay(t *testing.T) {
	for _, c := range []struct {
		blocks int
		l      []api.Event
	}{
		{15, nil}, {0, nil}, {-1, nil}, {97, nil}, {math.MinInt, nil}, {math.MaxInt, nil}, {1<<32 + 32, nil}, {15, []api.Event{create("/a")}}, {32, slices.Repeat([]api.Event{flush}, 201)}, {32, make([]api.Event, 201)}, {15, make([]api.Event, 5000)},
	} {
		if s, errs := Play(c.blocks, c.l); s != nil || errs != nil {
			t.Error("Play", c.blocks, len(c.l), s, errs)
		}
		if l, e := Lost(c.blocks, c.l); l != nil || e != api.ErrRange {
			t.Error("Lost", c.blocks, len(c.l), l, e)
		}
		if l, e := Settled(c.blocks, c.l); l != nil || e != api.ErrRange {
			t.Error("Settled", c.blocks, len(c.l), l, e)
		}
		for _, path := range []string{"/", "/a", "", "a"} {
			if l, e := Shrink(c.blocks, c.l, path); l != nil || e != api.ErrRange {
				t.Error("Shrink", c.blocks, len(c.l), path, l, e)
			}
		}
	}
	for _, path := range []string{"", "a", "//", "/a/", "/A", "/a b", "/longerst", "/a/b/c/d/e", "/a\n", "\xff", "/\xff", "/."} {
		if l, e := Shrink(32, []api.Event{create("/a")}, path); l != nil || e != api.ErrForm {
			t.Error("Shrink", path, l, e)
		}
	}
}

// P25.2, P25.6
func TestLost(t *testing.T) {
	for _, c := range []struct {
		name string
		l    []api.Event
		want []int
	}{
		{"nothing", nil, nil},
		{"the example", []api.Event{create("/a"), crash}, []int{1, 0}},
		{"sync", []api.Event{create("/a"), create("/b"), sync, create("/c"), sync}, []int{1, 2, 0, 1, 0}},
		{"written, and not flushed", []api.Event{create("/a"), of(api.Wrote, 1), flush, of(api.Wrote, 3), of(api.Wrote, 4), of(api.Wrote, 2), flush, of(api.Wrote, 11), flush, of(api.Wrote, 3), of(api.Wrote, 11), flush, of(api.Wrote, 11), flush}, []int{1, 1, 1, 1, 1, 1, 1, 1, 1, 1, 1, 0, 0, 0}},
		{"other data", []api.Event{create("/a"), sync, write("/a", 0, "x"), sync, write("/a", 0, "x"), write("/a", 0, "y"), truncate("/a"), sync}, []int{1, 0, 1, 0, 0, 1, 1, 0}},
		{"a file of more names", []api.Event{create("/b"), sync, link("/b", "/c"), sync, write("/c", 0, "x"), sync}, []int{1, 0, 1, 0, 2, 0}},
		// The least name of a file is part of what its other names are.
		{"another least name", []api.Event{create("/b"), sync, link("/b", "/a"), sync, unlink("/a"), sync}, []int{1, 0, 2, 0, 1, 0}},
		{"what is away is not lost", []api.Event{create("/a"), create("/b"), sync, unlink("/a"), unlink("/b"), create("/b"), sync}, []int{1, 2, 0, 0, 0, 0, 0}},
		{"renamed", []api.Event{create("/a"), write("/a", 0, "x"), sync, rename("/a", "/b"), create("/a"), sync}, []int{1, 1, 0, 1, 2, 0}},
		{"a directory and what is in it", []api.Event{mkdir("/d"), create("/d/a"), mkdir("/d/e"), crash}, []int{1, 2, 3, 0}},
		{"a file where a directory was", []api.Event{mkdir("/a"), sync, rmdir("/a"), create("/a"), sync}, []int{1, 0, 0, 1, 0}},
		{"what fails loses nothing", []api.Event{create("/a"), create("/a"), {}, rmdir("/"), of(api.Wrote, 99), sync, create("/a/b")}, []int{1, 1, 1, 1, 1, 0, 0}},
	} {
		if got, e := Lost(32, c.l); e != api.OK || !slices.Equal(got, c.want) {
			t.Error(c.name, got, e, "not", c.want)
		}
	}
}

// P25.3
func TestSettled(t *testing.T) {
	for _, c := range []struct {
		l    []api.Event
		want []int
	}{
		{nil, nil}, {[]api.Event{{}}, nil}, {[]api.Event{create("/a"), crash}, []int{0, 1}}, {[]api.Event{create("/a"), create("/a"), unlink("/a"), unlink("/a"), create("/a")}, []int{0, 2, 4}},
		{[]api.Event{of(api.Wrote, 31), of(api.Wrote, 32), {}, of(api.EngagedIn, 1), group, of(api.EngagedIn, 1), of(api.EngagedIn, 2), flush, sync, rmdir("/"), mkdir("/d")}, []int{0, 4, 5, 7, 8, 10}},
		{slices.Repeat([]api.Event{group}, 12), []int{0, 1, 2, 3, 4, 5, 6, 7}}, {slices.Repeat([]api.Event{flush}, 200), span(200)},
	} {
		got, e := Settled(32, c.l)
		if e != api.OK || !slices.Equal(got, picked(c.l, c.want...)) {
			t.Error(c.l, got, e)
		}
	}
}

// span are the numbers from 0 on.
func span(to int) []int {
	var l []int
	for n := range to {
		l = append(l, n)
	}
	return l
}

// picked are some of events.
func picked(l []api.Event, numbers ...int) []api.Event {
	var some []api.Event
	for _, n := range numbers {
		some = append(some, l[n])
	}
	return some
}

// P25.3
func TestShrink(t *testing.T) {
	twice := []api.Event{create("/a"), create("/a"), unlink("/a"), create("/a")}
	for _, c := range []struct {
		name string
		l    []api.Event
		path string
		want []int
	}{
		{"nothing", nil, "/a", nil},
		{"the root is always there", []api.Event{create("/a"), sync, crash}, "/", nil},
		{"what is never there", []api.Event{create("/a"), sync, crash}, "/b", nil},
		{"a file", []api.Event{create("/b"), create("/a"), write("/a", 0, "x"), sync, crash, create("/c")}, "/a", []int{1}},
		{"in a directory", []api.Event{mkdir("/e"), mkdir("/d"), create("/d/a"), create("/e/a"), create("/d/b")}, "/d/a", []int{1, 2}},
		{"lost by a crash", []api.Event{create("/a"), crash}, "/a", []int{1}},
		{"not lost", []api.Event{create("/a"), sync, crash}, "/a", []int{0}},
		{"renamed", []api.Event{create("/a"), rename("/a", "/b"), rename("/b", "/c"), create("/x")}, "/c", []int{0, 1, 2}},
		{"renamed away", []api.Event{create("/a"), rename("/a", "/b")}, "/a", []int{1}},
		// From the last one to the first: Unlink stays, as Create is there yet when it is asked for.
		{"taken away", []api.Event{create("/a"), unlink("/a")}, "/a", []int{1}},
		{"made again", twice, "/a", []int{1}},
		{"made twice", twice[:2], "/a", []int{0}},
		{"by one or the other", []api.Event{create("/b"), link("/b", "/a"), rename("/b", "/a")}, "/a", []int{0, 1}},
		{"what is not right", []api.Event{{}, create("/a"), {Kind: 99}}, "/a", []int{1}},
		{"a directory that is away", []api.Event{mkdir("/d"), create("/d/a"), unlink("/d/a"), rmdir("/d")}, "/d", []int{2, 3}},
		{"over and over", slices.Repeat([]api.Event{create("/a"), sync, unlink("/a")}, 66), "/a", []int{197}},
	} {
		want := picked(c.l, c.want...)
		if c.name == "made again" {
			want = []api.Event{create("/a")}
		}
		if got, e := Shrink(32, c.l, c.path); e != api.OK || !slices.Equal(got, want) {
			t.Error(c.name, got, e)
		}
		if got := shrunk(32, c.l, c.path); !slices.Equal(got, want) {
			t.Error("the words say", c.name, got)
		}
	}
}

// P25.3: as many events as there may be, few of which can be left out.
func TestShrinkOfMany(t *testing.T) {
	l := []api.Event{create("/a"), sync}
	for i := range 99 {
		l = append(l, rename("/"+name(i), "/"+name(i+1)), sync)
	}
	got, e := Shrink(96, l, "/"+name(99))
	renames := slices.DeleteFunc(slices.Clone(got), func(e api.Event) bool { return e == sync })
	if e != api.OK || len(l) != 200 || len(renames) != 100 || len(got) == 100 {
		t.Error(len(got), len(renames), e)
	}
	if s, _ := Play(96, got); !has(s, "/"+name(99)) {
		t.Error("it is not there", got)
	}
}

// name is a name by a number, a at first.
func name(i int) string { return strings.Repeat(string(rune('a'+i%26)), 1+i/26) }

// P3: what is handed in stays as it is, and is not kept; what is answered is the caller's.
func TestNothingIsShared(t *testing.T) {
	l := append(unsafe(), api.Event{}, crash)[:13]
	was := slices.Clone(l[:14])
	stays := func(call string) {
		t.Helper()
		if !slices.Equal(l[:14], was) {
			t.Error(call, l)
		}
	}
	s, errs := Play(32, l)
	clear(append(errs, 0))
	stays("Play")
	Apply(s, l[0])
	lost, _ := Lost(32, l)
	clear(append(lost, 0))
	stays("Lost")
	settled, _ := Settled(32, l)
	clear(append(settled, crash))
	stays("Settled")
	left, _ := Shrink(32, l, "/e")
	if len(left) == 0 {
		t.Error("nothing is left")
	}
	clear(append(left, crash))
	stays("Shrink")
	Print(l)
	stays("Print")
	read, _ := Parse("flush\nsync\n")
	clear(append(read, crash))
	if again, _ := Parse("flush\nsync\n"); !slices.Equal(again, []api.Event{flush, sync}) {
		t.Error(again)
	}
}

// The unsafe events are what they are said to be.
func TestUnsafe(t *testing.T) {
	s := after(t, unsafe()...)
	if image.Safe(s.Crash(nil)) || !image.Safe(s.Image()) {
		t.Error("a crash would leave an image")
	}
}
