package stitch

import (
	"bytes"
	"math"
	"slices"
	"strconv"
	"strings"
	"testing"

	"selvedge/api"
	"selvedge/cache"
	"selvedge/check"
	"selvedge/image"
	"selvedge/plan"
	"selvedge/tree"
)

// far are numbers of no block and no group.
var far = []int{-1, -2, math.MinInt, math.MaxInt, 96, 97, 1 << 32, 1<<32 + 11}

// made is a new system.
func made(t *testing.T, blocks int) *System {
	t.Helper()
	s := New(blocks)
	if s == nil {
		t.Fatal("New", blocks)
	}
	return s
}

// create, write and so on are operations.
func create(path string) api.Op          { return api.Op{Kind: api.Create, Path: path} }
func mkdir(path string) api.Op           { return api.Op{Kind: api.Mkdir, Path: path} }
func unlink(path string) api.Op          { return api.Op{Kind: api.Unlink, Path: path} }
func rmdir(path string) api.Op           { return api.Op{Kind: api.Rmdir, Path: path} }
func truncate(path string) api.Op        { return api.Op{Kind: api.Truncate, Path: path} }
func link(path, other string) api.Op     { return api.Op{Kind: api.Link, Path: path, Other: other} }
func rename(path, other string) api.Op   { return api.Op{Kind: api.Rename, Path: path, Other: other} }
func write(path, data string) api.Op     { return api.Op{Kind: api.Write, Path: path, Data: data} }
func at(off int, o api.Op) api.Op        { o.Off = off; return o }
func filled(letter string, n int) string { return strings.Repeat(letter, n) }

// done fails the test unless all of these operations are OK.
func done(t *testing.T, s *System, l ...api.Op) {
	t.Helper()
	for _, o := range l {
		if e := s.Do(o); e != api.OK {
			t.Fatal(o, "has", e)
		}
	}
}

// does fails the test unless all of these are OK.
func does(t *testing.T, l ...api.Errno) {
	t.Helper()
	for i, e := range l {
		if e != api.OK {
			t.Fatal("call", i, "has", e)
		}
	}
}

// grouped is a new group, made, in which some operations are done; it is Released then.
func grouped(t *testing.T, s *System, behind []int, l ...api.Op) int {
	t.Helper()
	n, e := s.Group()
	does(t, e)
	for _, ahead := range behind {
		does(t, s.Depend(n, ahead))
	}
	does(t, s.Engage(n))
	done(t, s, l...)
	does(t, s.Disengage(n), s.Release(n))
	return n
}

// lasts writes and flushes these blocks, one behind the other.
func lasts(t *testing.T, s *System, l ...int) {
	t.Helper()
	for _, block := range l {
		does(t, s.Write(block), s.Flush())
	}
}

func same(a, b [][]byte) bool { return slices.EqualFunc(a, b, bytes.Equal) }

// copied is the same image, in bytes of its own.
func copied(img [][]byte) [][]byte {
	other := make([][]byte, len(img))
	for i, b := range img {
		other[i] = slices.Clone(b)
	}
	return other
}

// paths fails the test unless a safe image has just those.
func paths(t *testing.T, what string, img [][]byte, want ...string) {
	t.Helper()
	l, e := image.Tree(img)
	var got []string
	for _, n := range l {
		got = append(got, n.Path)
	}
	if e != api.OK || !slices.Equal(got, want) {
		t.Error(what, e, got, "not", want)
	}
}

// reads fails the test unless a file of an image has such data.
func reads(t *testing.T, what string, img [][]byte, path, want string) {
	t.Helper()
	ino, e := image.Find(img, path)
	data, r := image.Data(img, ino)
	if e != api.OK || r != api.OK || data != want {
		t.Error(what, path, e, r, data, "not", want)
	}
}

// waits fails the test unless so many patches wait.
func waits(t *testing.T, what string, s *System, want int) {
	t.Helper()
	if got := s.Waiting(); got != want {
		t.Error(what, "waiting", got, "not", want)
	}
}

// dirty are the blocks at hand that are dirty.
func dirty(s *System) []int {
	hand := s.own.hand.Fork()
	return slices.DeleteFunc(hand.List(), func(block int) bool { return hand.Drop(block) == api.OK })
}

// told is all that a system tells; of what it does not tell, the blocks at hand.
type told struct {
	img, crash, picked [][]byte
	waiting            int
	states             []api.GroupState
	hand, dirty        []int
}

func tell(s *System) told {
	is := told{img: s.Image(), crash: s.Crash(nil), picked: s.Crash(slices.Repeat([]int{1}, 96)), waiting: s.Waiting()}
	for n := range 20 {
		is.states = append(is.states, s.State(n))
	}
	is.hand, is.dirty = s.own.hand.List(), dirty(s)
	return is
}

// sameBut: do both tell the same, but for the blocks at hand?
func (a told) sameBut(b told) bool {
	return same(a.img, b.img) && same(a.crash, b.crash) && same(a.picked, b.picked) && a.waiting == b.waiting && slices.Equal(a.states, b.states)
}

func (a told) same(b told) bool {
	return a.sameBut(b) && slices.Equal(a.hand, b.hand) && slices.Equal(a.dirty, b.dirty)
}

// refuses fails the test unless a call has that error, and changes nothing.
func refuses(t *testing.T, what string, s *System, want api.Errno, call func() api.Errno) {
	t.Helper()
	was := tell(s)
	if e := call(); e != want {
		t.Error(what, e, "not", want)
	}
	if !was.same(tell(s)) {
		t.Error(what, "changes something beside an error")
	}
}

// Example 1.
func TestExample(t *testing.T) {
	s := made(t, 32)
	done(t, s, create("/a"))
	paths(t, "crash", s.Crash(nil), "/")
	does(t, s.Sync())
	paths(t, "crash behind sync", s.Crash(nil), "/", "/a")
}

// DOC.md's examples of the whole: who sees the new name sees all that was written; an inode that is lost is freed.
func TestExamplesOfTheWhole(t *testing.T) {
	s := made(t, 32)
	done(t, s, create("/a"))
	does(t, s.Sync())
	first := grouped(t, s, nil, write("/a", filled("x", 40)))
	grouped(t, s, []int{first}, rename("/a", "/b"))
	for range 8 {
		for block := 31; block >= 0; block-- {
			lasts(t, s, block)
			img := s.Crash(nil)
			if _, e := image.Find(img, "/b"); e == api.OK {
				reads(t, "behind the new name", img, "/b", filled("x", 40))
			}
		}
	}
	waits(t, "in the end", s, 0)

	s = made(t, 32)
	done(t, s, create("/a"))
	lasts(t, s, 1, 4)
	s = Mount(s.Crash(nil))
	l, e := image.Defects(s.Image())
	if e != api.OK || !slices.Equal(l, []api.Defect{{What: api.LostInode, Number: 2}}) {
		t.Error("defects", l, e)
	}
	img, _, e := check.Check(s.Image())
	if fresh, _ := image.Make(32); e != api.OK || !same(img, fresh) {
		t.Error("checked", e)
	}
}

// P15.1: New is of as many blocks as an image may have, with a root alone.
func TestNew(t *testing.T) {
	for blocks := -3; blocks < 200; blocks++ {
		s := New(blocks)
		if s == nil != (blocks < 16 || blocks > 96) {
			t.Fatal("New", blocks, s != nil)
		}
		if s == nil {
			continue
		}
		img, _ := image.Make(blocks)
		if !same(s.Image(), img) || !same(s.Crash(nil), img) || !tree.Same(s.Tree(), tree.New()) || s.Waiting() != 0 {
			t.Error("New", blocks, "is not new")
		}
		for n := -1; n < 10; n++ {
			if s.State(n) != api.NoGroup {
				t.Error("a group", n)
			}
		}
	}
	for _, blocks := range far[:4] {
		if New(blocks) != nil {
			t.Error("New", blocks)
		}
	}
}

// worn is a safe image with a file /a, and an inode and a block that are lost.
func worn(t *testing.T) [][]byte {
	t.Helper()
	s := made(t, 20)
	done(t, s, create("/a"), write("/a", "hello"), create("/b"))
	img := s.Image()
	img[11][8], img[11][9] = 0, 0 // the entry of /b
	img[2][2] |= 1 << 3           // the bit of block 19
	if l, e := image.Defects(img); e != api.OK || len(l) != 2 {
		t.Fatal("worn", l, e)
	}
	return img
}

// P15.1: Mount is of each image that is safe, with all that is lost in it.
func TestMount(t *testing.T) {
	img := worn(t)
	s := Mount(img)
	if s == nil || !same(s.Image(), img) || !same(s.Crash(nil), img) || s.Waiting() != 0 {
		t.Fatal("Mount")
	}
	paths(t, "mounted", s.Image(), "/", "/a")
	done(t, s, create("/c"))
	if ino, e := image.Find(s.Image(), "/c"); ino != 4 || e != api.OK {
		t.Error("an inode that is lost is not free", ino, e)
	}
	wrong := map[string][][]byte{"nil": nil, "empty": {}, "a block less": img[:19], "a block more": append(copied(img), make([]byte, 32)), "nil blocks": make([][]byte, 20)}
	change := func(what string, block, at int, b byte) {
		wrong[what] = copied(img)
		wrong[what][block][at] = b
	}
	change("another number", 0, 2, 21)
	change("the root is free", 3, 16, 0)
	change("an entry to no inode", 11, 0, 9)
	change("an inode whose bit is not set", 1, 0, 3)
	change("a block whose bit is not set", 2, 1, 8)
	change("no entry", 11, 2, 'A')
	wrong["a short block"] = copied(img)
	wrong["a short block"][15] = img[15][:31]
	for what, img := range wrong {
		if image.Safe(img) || Mount(img) != nil {
			t.Error("Mount of", what)
		}
	}
}

// P1, P2: of a nil system.
func TestNil(t *testing.T) {
	var s *System
	for what, e := range map[string]api.Errno{
		"Do": s.Do(create("/a")), "Do of nothing": s.Do(api.Op{}), "Write": s.Write(3), "Write far": s.Write(-1), "Flush": s.Flush(), "Sync": s.Sync(), "Spoil": s.Spoil(3, true),
		"Depend": s.Depend(1, 2), "Engage": s.Engage(1), "Disengage": s.Disengage(1), "Release": s.Release(1), "Abandon": s.Abandon(1), "SyncGroup": s.SyncGroup(1),
	} {
		if e != api.ErrNil {
			t.Error(what, e)
		}
	}
	if data, e := s.Read("/"); data != "" || e != api.ErrNil {
		t.Error("Read", data, e)
	}
	if l, e := s.List("nothing"); len(l) != 0 || e != api.ErrNil {
		t.Error("List", l, e)
	}
	if n, e := s.Group(); n != 0 || e != api.ErrNil {
		t.Error("Group", n, e)
	}
	if len(s.Crash([]int{1})) != 0 || len(s.Image()) != 0 || len(s.Tree()) != 0 || s.Waiting() != 0 || s.State(1) != api.NoGroup || s.Fork() != nil {
		t.Error("something of nil")
	}
}

// P15.2, P15.4: what the tree refuses is refused with its error, and changes nothing.
func TestDoRefuses(t *testing.T) {
	s := made(t, 32)
	done(t, s, create("/a"), write("/a", "abc"), mkdir("/d"), create("/d/f"), mkdir("/e"))
	lasts(t, s, 1, 4)
	s.Write(2)
	for _, c := range []struct {
		o    api.Op
		want api.Errno
	}{
		{api.Op{}, api.ErrForm},
		{api.Op{Kind: 99, Path: "/x"}, api.ErrForm},
		{create(""), api.ErrForm}, {create("/"), api.ErrForm}, {create("x"), api.ErrForm}, {create("/x/"), api.ErrForm}, {create("/X"), api.ErrForm}, {create("/a\xff"), api.ErrForm},
		{create("/toolong8"), api.ErrForm}, {create("/a/b/c/d/e"), api.ErrForm}, {at(1, create("/x")), api.ErrForm}, {link("/a", ""), api.ErrForm},
		{write("/a", ""), api.ErrForm}, {write("/a", filled("x", 65)), api.ErrForm}, {at(-1, write("/a", "x")), api.ErrForm}, {at(257, write("/a", "x")), api.ErrForm},
		{create("/x/y"), api.ErrNoent}, {create("/a/y"), api.ErrNotdir}, {create("/a"), api.ErrExist}, {mkdir("/d"), api.ErrExist},
		{link("/x", "/y"), api.ErrNoent}, {link("/d", "/y"), api.ErrIsdir}, {link("/a", "/e"), api.ErrExist}, {rename("/a", "/a"), api.ErrExist}, {rename("/d", "/y"), api.ErrIsdir},
		{unlink("/x"), api.ErrNoent}, {unlink("/d"), api.ErrIsdir}, {rmdir("/a"), api.ErrNotdir}, {rmdir("/d"), api.ErrNotempty}, {rmdir("/x"), api.ErrNoent},
		{write("/d", "x"), api.ErrIsdir}, {at(4, write("/a", "x")), api.ErrRange}, {truncate("/x"), api.ErrNoent}, {truncate("/e"), api.ErrIsdir},
	} {
		refuses(t, "Do", s, c.want, func() api.Errno { return s.Do(c.o) })
		if _, e := tree.Apply(s.Tree(), c.o); e != c.want {
			t.Error(c.o, "is refused by the tree with", e)
		}
	}
}

// P15.2: without room there is ErrSpace.
func TestDoWithoutRoom(t *testing.T) {
	s := made(t, 48)
	for i := range 14 {
		done(t, s, create("/f"+string(rune('a'+i))))
	}
	refuses(t, "no inode", s, api.ErrSpace, func() api.Errno { return s.Do(create("/x")) })
	s = made(t, 16)
	done(t, s, create("/a"), write("/a", filled("x", 64)), at(64, write("/a", filled("x", 64))))
	refuses(t, "no block", s, api.ErrSpace, func() api.Errno { return s.Do(at(128, write("/a", "x"))) })
	done(t, s, write("/a", "y"))
	done(t, s, truncate("/a"), write("/a", "y"))
}

// P15.2: each patch comes behind those that the plan says. Create: 0 BIT(2), 1 REC(2), 2 BIT(11), 3 block 11, 4 MAP(1), 5 the entry.
func TestDoIsBehindThePlan(t *testing.T) {
	s := made(t, 16)
	fresh := s.Image()
	done(t, s, create("/a"))
	waits(t, "Create", s, 6)
	if want, _ := plan.Do(fresh, create("/a")); !same(s.Image(), want) || !same(s.Crash(nil), fresh) {
		t.Error("Image")
	}
	lasts(t, s, 11, 4, 3, 0, 15)
	waits(t, "nothing is ready there", s, 6)
	lasts(t, s, 1)
	waits(t, "BIT(2)", s, 5)
	lasts(t, s, 11, 3, 4)
	waits(t, "REC(2)", s, 4)
	if n, e := image.Inode(s.Crash(nil), 2); n.Kind != api.File || e != api.OK {
		t.Error("inode", n, e)
	}
	lasts(t, s, 11, 3, 2)
	waits(t, "BIT(11)", s, 3)
	lasts(t, s, 3, 11)
	waits(t, "block 11 and the entry", s, 1)
	paths(t, "without MAP(1)", s.Crash(nil), "/")
	lasts(t, s, 3)
	paths(t, "all", s.Crash(nil), "/", "/a")
	if !image.Clean(s.Crash(nil)) || !same(s.Crash(nil), s.Image()) {
		t.Error("not clean")
	}
}

// three is a synced system of files /a, /b, /c of 32 bytes each, in the blocks 12, 13, 14.
func three(t *testing.T) *System {
	t.Helper()
	s := made(t, 32)
	done(t, s, create("/a"), write("/a", filled("a", 32)), create("/b"), write("/b", filled("b", 32)), create("/c"), write("/c", filled("c", 32)))
	does(t, s.Sync())
	return s
}

// ahead fails the test unless the block b can't last ahead of the block a, and can behind it.
func ahead(t *testing.T, what string, s *System, a, b int) {
	t.Helper()
	waiting := s.Waiting()
	lasts(t, s, b)
	waits(t, what+": too soon", s, waiting)
	lasts(t, s, a)
	waits(t, what+": what is ahead", s, waiting-1)
	lasts(t, s, b)
	waits(t, what+": what is behind", s, waiting-2)
}

// P15.2: each patch comes behind all of group.Behind, and is of those groups that are Engaged.
func TestDoIsBehindGroups(t *testing.T) {
	s := three(t)
	first := grouped(t, s, nil, write("/a", "x"))
	second := grouped(t, s, []int{first}, write("/b", "y"))
	done(t, s, write("/c", "z"))
	free := s.Fork()
	ahead(t, "in a group behind", s, 12, 13)
	lasts(t, free, 14)
	waits(t, "in no group", free, 2)

	s = three(t)
	first = grouped(t, s, nil, write("/a", "x"))
	second = grouped(t, s, []int{first})
	grouped(t, s, []int{second}, write("/c", "y"))
	ahead(t, "through another one", s, 12, 14)

	s = three(t)
	first = grouped(t, s, nil, write("/a", "x"))
	second = grouped(t, s, nil, write("/b", "y"))
	grouped(t, s, []int{second, first}, write("/c", "z"))
	lasts(t, s, 14, 12, 14)
	waits(t, "behind two, of which one lasts", s, 2)
	lasts(t, s, 13, 14)
	waits(t, "behind two", s, 0)
}

// P15.2: all patches of a plan are of the groups that are Engaged, and all of a plan come behind what groups say.
func TestDoAllPatchesOfAPlan(t *testing.T) {
	s := three(t)
	first := grouped(t, s, nil, create("/x"))
	grouped(t, s, []int{first}, write("/b", "y"))
	waits(t, "BIT(5), REC(5), the entry; /b", s, 4)
	for i, block := range []int{1, 5, 11} {
		lasts(t, s, 13)
		waits(t, "as long as one waits", s, 4-i)
		lasts(t, s, block)
	}
	lasts(t, s, 13)
	waits(t, "all", s, 0)

	s = three(t)
	first = grouped(t, s, nil, write("/a", "x"))
	grouped(t, s, []int{first}, write("/b", filled("y", 64)))
	waits(t, "/a; /b, BIT(15), block 15, MAP(3)", s, 5)
	lasts(t, s, 13, 2, 15, 4, 13, 2, 15, 4)
	waits(t, "as long as the one waits", s, 5)
	lasts(t, s, 12, 13, 2, 15, 4)
	waits(t, "all", s, 0)

	s = three(t)
	first, e := s.Group()
	second, r := s.Group()
	does(t, e, r, s.Engage(first), s.Engage(second))
	done(t, s, write("/a", "x"))
	does(t, s.Disengage(first), s.Disengage(second), s.Release(first), s.Release(second))
	for i, group := range []int{first, second} {
		f := s.Fork()
		grouped(t, f, []int{group}, write("/b", "y"))
		ahead(t, "of one of two groups, "+strconv.Itoa(i), f, 12, 13)
	}
}

// P15.2: at most MaxPending patches wait; what would be more is refused.
func TestDoWithTooManyPatches(t *testing.T) {
	s := three(t)
	done(t, s, create("/empty"))
	does(t, s.Sync())
	for i := range 199 {
		done(t, s, at(i%32, write("/a", "x")))
	}
	for _, o := range []api.Op{link("/a", "/z"), at(30, write("/b", "yyy")), unlink("/c")} {
		was := tell(s)
		if e := s.Do(o); e != api.ErrFull {
			t.Error(o, e)
		}
		if is := tell(s); !was.sameBut(is) || !slices.Equal(was.dirty, is.dirty) {
			t.Error(o, "changes something beside ErrFull")
		}
	}
	done(t, s, write("/b", "y"))
	waits(t, "as many as may", s, api.MaxPending)
	if e := s.Do(write("/a", "x")); e != api.ErrFull {
		t.Error("one more", e)
	}
	done(t, s, truncate("/empty")) // no patches
	if e := s.Do(create("/a")); e != api.ErrExist {
		t.Error("the tree's error goes ahead", e)
	}
	does(t, s.Sync())
	reads(t, "synced", s.Crash(nil), "/b", "y"+filled("b", 31))
	done(t, s, link("/a", "/z"))
}

// P15.2: those blocks are used, in order, that a plan has, though engine.Add then has an error.
func TestDoUsesBlocks(t *testing.T) {
	s := three(t)
	for range 199 {
		done(t, s, write("/a", "x"))
	}
	s.own.hand = cache.New(24)
	if e := s.Do(create("/d")); e != api.ErrFull {
		t.Fatal(e)
	}
	// BIT(5), REC(5), the entry.
	if l := s.own.hand.List(); !slices.Equal(l, []int{1, 5, 11}) || len(dirty(s)) != 0 {
		t.Error("used", l, dirty(s))
	}
	done(t, s, write("/b", "y"))
	if l := s.own.hand.List(); !slices.Equal(l, []int{1, 5, 11, 13}) || !slices.Equal(dirty(s), []int{13}) {
		t.Error("used", l, dirty(s))
	}
}

// P15.2: a block is used for each of its patches, in order: it comes back, if it went between.
func TestDoUsesBlocksAgain(t *testing.T) {
	s := made(t, 96)
	done(t, s, create("/a"), create("/b"), create("/c"), create("/d"))
	does(t, s.Sync())
	s.own.hand = cache.New(24)
	want := []int{12}
	for block := 60; block < 83; block++ {
		s.own.hand.Use(block)
		does(t, s.own.hand.Dirty(block, true))
		want = append(want, block)
	}
	// BIT(6), REC(6), BIT(12), block 12, MAP(1), the entry in block 12: there is room for one that is not dirty.
	done(t, s, create("/e"))
	if got := slices.Sorted(slices.Values(s.own.hand.List())); !slices.Equal(got, want) || len(dirty(s)) != 24 {
		t.Error("at hand", got, "dirty", dirty(s))
	}
}

// crowded is a system with 24 blocks at hand, all dirty: 1 to 5, 11, and of data 12 to 29.
func crowded(t *testing.T) *System {
	t.Helper()
	s := made(t, 96)
	done(t, s, create("/a"), create("/b"), create("/c"), create("/d"))
	for i, path := range []string{"/a", "/a", "/a", "/a", "/b", "/b", "/b", "/b", "/c"} {
		done(t, s, at(i%4*64, write(path, filled(string(rune('a'+i)), 64))))
	}
	if l := dirty(s); len(l) != 24 {
		t.Fatal("crowded", l)
	}
	return s
}

// P15.2: where no block at hand can go, an operation that needs one more is refused; behind a Sync it is not.
func TestDoWithTooManyBlocks(t *testing.T) {
	s := crowded(t)
	for _, o := range []api.Op{at(64, write("/c", "x")), create("/e"), mkdir("/x")} {
		refuses(t, "one block more", s, api.ErrFull, func() api.Errno { return s.Do(o) })
	}
	done(t, s, at(60, write("/c", "last")), write("/b", "first"), unlink("/d"), create("/d"))
	does(t, s.Flush())
	refuses(t, "behind Flush alone", s, api.ErrFull, func() api.Errno { return s.Do(create("/e")) })
	f := s.Fork()
	does(t, s.Sync())
	if l := dirty(s); len(l) != 0 || len(s.own.hand.List()) != 24 {
		t.Error("behind Sync", l)
	}
	done(t, s, at(64, write("/c", "x")), create("/e"), create("/g"), create("/h"))
	refuses(t, "the fork is as it was", f, api.ErrFull, func() api.Errno { return f.Do(create("/e")) })
}

// P15.2: a block that is not dirty goes, also that of the same plan.
func TestDoLetsBlocksGo(t *testing.T) {
	s := crowded(t)
	lasts(t, s, 1, 2)
	// Nothing waits on the blocks 1 and 2 any more; all else is dirty.
	if l := dirty(s); len(l) != 22 || slices.Contains(l, 1) || slices.Contains(l, 2) {
		t.Fatal("dirty", l)
	}
	// BIT(6), REC(6), BIT(30), block 30, MAP(1), the entry: for the block 6 goes 1, for 30 then 2, though BIT(30) waits on it now.
	done(t, s, create("/e"))
	hand := s.own.hand.List()
	for block, want := range map[int]bool{1: false, 2: false, 6: true, 30: true} {
		if slices.Contains(hand, block) != want {
			t.Error("at hand", block, hand)
		}
	}
	if len(hand) != 24 || len(dirty(s)) != 24 {
		t.Error("at hand", hand, "dirty", dirty(s))
	}
	refuses(t, "all are dirty", s, api.ErrFull, func() api.Errno { return s.Do(create("/g")) })
	does(t, s.Sync())
	paths(t, "what went from hand is not lost", s.Crash(nil), "/", "/a", "/b", "/c", "/d", "/e")
}

// P15.3: behind Write, Flush and Sync those blocks at hand are not dirty on which nothing waits.
func TestSettles(t *testing.T) {
	s := made(t, 16)
	done(t, s, create("/a"))
	for _, c := range []struct {
		call func() api.Errno
		want []int
	}{
		{func() api.Errno { return s.Write(1) }, []int{1, 2, 3, 4, 11}},
		{s.Flush, []int{2, 3, 4, 11}},
		{func() api.Errno { return s.Write(4) }, []int{2, 3, 4, 11}},
		{func() api.Errno { return s.Write(2) }, []int{2, 3, 4, 11}},
		{s.Flush, []int{3, 11}},
		{func() api.Errno { return s.Spoil(3, true) }, []int{3, 11}},
		{s.Sync, []int{3}},
		{func() api.Errno { return s.Spoil(3, false) }, []int{3}},
		{s.Sync, nil},
	} {
		c.call()
		if got := slices.Sorted(slices.Values(dirty(s))); !slices.Equal(got, c.want) {
			t.Error("dirty", got, "not", c.want)
		}
	}
	n := grouped(t, s, nil, write("/a", "x"))
	does(t, s.SyncGroup(n))
	waits(t, "SyncGroup", s, 0)
	// BIT(12), block 12, MAP(2): P15.3 names Write, Flush and Sync alone.
	if got := slices.Sorted(slices.Values(dirty(s))); !slices.Equal(got, []int{2, 4, 12}) {
		t.Error("dirty behind SyncGroup", got)
	}
	does(t, s.Write(0))
	if len(dirty(s)) != 0 {
		t.Error("dirty behind Write", dirty(s))
	}
}

// P15.2: Read is a file's data as it is meant, whatever lasts.
func TestRead(t *testing.T) {
	s := made(t, 32)
	done(t, s, create("/a"), mkdir("/d"), create("/d/f"), write("/d/f", "hello"), link("/d/f", "/g"))
	for path, want := range map[string]string{"/a": "", "/d/f": "hello", "/g": "hello"} {
		if data, e := s.Read(path); data != want || e != api.OK {
			t.Error("Read", path, data, e)
		}
	}
	for path, want := range map[string]api.Errno{"": api.ErrForm, "a": api.ErrForm, "/A": api.ErrForm, "/d/": api.ErrForm, "/a/b/c/d/e": api.ErrForm, "/d\x00": api.ErrForm, "/x": api.ErrNoent, "/d/x": api.ErrNoent, "/x/f": api.ErrNoent, "/a/x": api.ErrNotdir, "/": api.ErrIsdir, "/d": api.ErrIsdir} {
		refuses(t, "Read "+path, s, want, func() api.Errno {
			data, e := s.Read(path)
			if data != "" {
				t.Error("data beside an error")
			}
			return e
		})
	}
}

// P15.2: List are the names, rising, in whatever order the entries stand.
func TestList(t *testing.T) {
	s := made(t, 32)
	done(t, s, create("/c"), mkdir("/a"), create("/a-b"), create("/b"), create("/a/z"), create("/a/y"), mkdir("/e"), unlink("/c"), create("/d"))
	for path, want := range map[string][]string{"/": {"a", "a-b", "b", "d", "e"}, "/a": {"y", "z"}, "/e": nil} {
		if l, e := s.List(path); !slices.Equal(l, want) || e != api.OK {
			t.Error("List", path, l, e)
		}
	}
	for path, want := range map[string]api.Errno{"": api.ErrForm, "a": api.ErrForm, "/A": api.ErrForm, "//": api.ErrForm, "/x": api.ErrNoent, "/a/x": api.ErrNoent, "/b/x": api.ErrNotdir, "/b": api.ErrNotdir, "/a/y": api.ErrNotdir} {
		refuses(t, "List "+path, s, want, func() api.Errno {
			l, e := s.List(path)
			if len(l) != 0 {
				t.Error("names beside an error")
			}
			return e
		})
	}
}

// P15.3: what is written lasts behind Flush; Write is refused as the engine refuses it.
func TestWriteAndFlush(t *testing.T) {
	s := three(t)
	done(t, s, write("/a", "x"), write("/b", "y"))
	does(t, s.Write(12))
	reads(t, "written", s.Crash(nil), "/a", filled("a", 32))
	reads(t, "picked", s.Crash([]int{1}), "/a", "x"+filled("a", 31))
	waits(t, "written", s, 2)
	does(t, s.Flush())
	reads(t, "flushed", s.Crash(nil), "/a", "x"+filled("a", 31))
	reads(t, "not written", s.Crash(nil), "/b", filled("b", 32))
	waits(t, "flushed", s, 1)
	for _, block := range append(far, 32) {
		refuses(t, "Write", s, api.ErrRange, func() api.Errno { return s.Write(block) })
		refuses(t, "Spoil", s, api.ErrRange, func() api.Errno { return s.Spoil(block, true) })
	}
	does(t, s.Spoil(13, true), s.Write(12), s.Write(14))
	refuses(t, "a bad block", s, api.ErrIO, func() api.Errno { return s.Write(13) })
	does(t, s.Spoil(13, false), s.Write(13), s.Flush())
	waits(t, "good again", s, 0)
}

// P15.3, P15.6: behind Sync a crash leaves all; of bad blocks there is ErrIO, and all else lasts.
func TestSync(t *testing.T) {
	s := crowded(t)
	f := s.Fork()
	does(t, s.Sync())
	if waits(t, "Sync", s, 0); !same(s.Crash(nil), s.Image()) || !same(s.Crash([]int{1, 1, 1}), s.Image()) {
		t.Error("Sync")
	}
	does(t, s.Sync(), f.Spoil(29, true))
	if e := f.Sync(); e != api.ErrIO {
		t.Error("a bad block", e)
	}
	// The block 29, and MAP of /c behind it.
	waits(t, "a bad block", f, 2)
	done(t, f, write("/a", "x"))
	does(t, f.Spoil(29, false), f.Sync())
	if !same(f.Crash(nil), f.Image()) {
		t.Error("good again")
	}
}

// P15.3: a Crash picks versions, changes nothing, and is of a system that has the same still.
func TestCrash(t *testing.T) {
	s := three(t)
	done(t, s, write("/a", "x"))
	does(t, s.Write(12))
	done(t, s, write("/a", "y"), write("/c", "z"))
	does(t, s.Write(12), s.Write(14))
	was := tell(s)
	for _, c := range []struct {
		pick []int
		a, c string
	}{
		{nil, "a", "c"}, {[]int{0}, "a", "c"}, {[]int{1}, "x", "c"}, {[]int{2}, "y", "c"}, {[]int{3}, "a", "c"}, {[]int{-1, 1}, "a", "z"}, {[]int{2, 1}, "y", "z"}, {[]int{1, 2, 7}, "x", "c"}, {[]int{math.MaxInt, math.MinInt}, "a", "c"},
	} {
		img := s.Crash(c.pick)
		reads(t, "crash", img, "/a", c.a+filled("a", 31))
		reads(t, "crash", img, "/c", c.c+filled("c", 31))
		reads(t, "crash", img, "/b", filled("b", 32))
	}
	if !was.same(tell(s)) {
		t.Error("a crash changes the system")
	}
}

// P15.1, P15.3: groups are those of package group.
func TestGroups(t *testing.T) {
	s := made(t, 32)
	for n := 1; n <= 8; n++ {
		if got, e := s.Group(); got != n || e != api.OK || s.State(n) != api.Fresh {
			t.Fatal("Group", got, e)
		}
	}
	refuses(t, "Group", s, api.ErrFull, func() api.Errno {
		n, e := s.Group()
		if n != 0 {
			t.Error("a number beside an error")
		}
		return e
	})
	for _, n := range append(far, 0, 9) {
		for what, call := range map[string]func() api.Errno{
			"Engage": func() api.Errno { return s.Engage(n) }, "Disengage": func() api.Errno { return s.Disengage(n) }, "Release": func() api.Errno { return s.Release(n) }, "Abandon": func() api.Errno { return s.Abandon(n) },
			"SyncGroup": func() api.Errno { return s.SyncGroup(n) }, "Depend": func() api.Errno { return s.Depend(n, 1) }, "Depend on": func() api.Errno { return s.Depend(1, n) },
		} {
			refuses(t, what, s, api.ErrNoent, call)
		}
		if s.State(n) != api.NoGroup {
			t.Error("State", n)
		}
	}
	state := func(n int, want api.GroupState) {
		t.Helper()
		if got := s.State(n); got != want {
			t.Error("State", n, got, "not", want)
		}
	}
	does(t, s.Engage(1))
	state(1, api.Engaged)
	refuses(t, "Release", s, api.ErrState, func() api.Errno { return s.Release(1) })
	refuses(t, "Abandon", s, api.ErrState, func() api.Errno { return s.Abandon(1) })
	does(t, s.Disengage(1))
	state(1, api.Resting)
	refuses(t, "Disengage", s, api.ErrState, func() api.Errno { return s.Disengage(1) })
	refuses(t, "Depend", s, api.ErrState, func() api.Errno { return s.Depend(2, 1) })
	does(t, s.Release(1), s.Depend(2, 1))
	state(1, api.Released)
	refuses(t, "Engage", s, api.ErrState, func() api.Errno { return s.Engage(1) })
	refuses(t, "Abandon", s, api.ErrBusy, func() api.Errno { return s.Abandon(1) })
	does(t, s.Abandon(2), s.Abandon(1))
	state(1, api.NoGroup)
	if n, e := s.Group(); n != 9 || e != api.OK {
		t.Error("Group", n, e)
	}
	if m := Mount(s.Image()); m.State(3) != api.NoGroup {
		t.Error("groups are gone with the power")
	}
}

// P15.3: SyncGroup lets all of a group last, and ends as soon as it does.
func TestSyncGroup(t *testing.T) {
	s := three(t)
	n := grouped(t, s, nil, write("/b", "y"))
	done(t, s, write("/a", "x"), unlink("/c"))
	does(t, s.SyncGroup(n))
	reads(t, "the group's", s.Crash(nil), "/b", "y"+filled("b", 31))
	reads(t, "what was ready", s.Crash(nil), "/a", "x"+filled("a", 31))
	// REC(4) comes behind the entry, BIT(14) and BIT(4) behind that: they would last in the next rounds.
	waits(t, "what comes behind", s, 3)
	was := tell(s)
	does(t, s.SyncGroup(n))
	if !was.same(tell(s)) {
		t.Error("nothing of the group waits, and something changes")
	}
	empty, e := s.Group()
	does(t, e, s.SyncGroup(empty))
	if !was.sameBut(func() told { f := s.Fork(); f.Abandon(empty); return tell(f) }()) {
		t.Error("a group without patches")
	}
	does(t, s.Write(5), s.SyncGroup(empty))
	waits(t, "no Flush", s, 3)
}

// P15.3: of bad blocks SyncGroup has ErrIO as soon as nothing more lasts, if the group needs them.
func TestSyncGroupOfBadBlocks(t *testing.T) {
	s := three(t)
	n := grouped(t, s, nil, write("/b", "y"))
	done(t, s, unlink("/c"), write("/a", "x"))
	does(t, s.Spoil(12, true))
	f := s.Fork()
	does(t, f.SyncGroup(n))
	waits(t, "another one's block is bad", f, 4)
	does(t, s.Spoil(12, false), s.Spoil(13, true))
	if e := s.SyncGroup(n); e != api.ErrIO {
		t.Error("its own block is bad", e)
	}
	waits(t, "all else lasts", s, 1)
	if e := s.SyncGroup(n); e != api.ErrIO {
		t.Error("again", e)
	}
	// A version that was written while the block was good lasts.
	s = three(t)
	n = grouped(t, s, nil, write("/b", "y"))
	does(t, s.Write(13), s.Spoil(13, true), s.SyncGroup(n))
	waits(t, "written ahead", s, 0)
	// What the group comes behind is bad.
	s = three(t)
	first := grouped(t, s, nil, write("/a", "x"))
	n = grouped(t, s, []int{first}, write("/b", "y"))
	does(t, s.Spoil(12, true))
	if e := s.SyncGroup(n); e != api.ErrIO {
		t.Error("a block ahead is bad", e)
	}
	waits(t, "a block ahead is bad", s, 2)
	does(t, s.Spoil(12, false), s.SyncGroup(n))
	waits(t, "good again", s, 0)
}

// P4: of a system and its Fork, what becomes of the one changes nothing of the other one.
func TestFork(t *testing.T) {
	changes := map[string]func(s *System) api.Errno{
		"Do": func(s *System) api.Errno { return s.Do(create("/x")) }, "Write": func(s *System) api.Errno { return s.Write(12) }, "Flush": func(s *System) api.Errno { return s.Flush() }, "Sync": func(s *System) api.Errno { return s.Sync() },
		"Group": func(s *System) api.Errno { _, e := s.Group(); return e }, "Engage": func(s *System) api.Errno { return s.Engage(2) }, "Release": func(s *System) api.Errno { return s.Release(2) }, "Abandon": func(s *System) api.Errno { return s.Abandon(2) },
		"SyncGroup": func(s *System) api.Errno { return s.SyncGroup(1) },
	}
	base := three(t)
	grouped(t, base, nil, write("/a", "x"), write("/c", "z"))
	_, e := base.Group()
	does(t, e, base.Depend(2, 1), base.Write(14))
	for what, change := range changes {
		s, f := base.Fork(), base.Fork()
		was := tell(s)
		does(t, change(f))
		if !was.same(tell(s)) {
			t.Error(what, "of a fork changes the system")
		}
		does(t, change(s))
		if !tell(f).same(tell(s)) {
			t.Error(what, "is another one of a fork")
		}
	}
	f := base.Fork()
	does(t, f.Spoil(13, true), base.Flush(), base.Engage(2))
	done(t, base, write("/b", "y"))
	does(t, base.Disengage(2))
	ahead(t, "neither bad, nor without groups", base, 12, 13)
}

// P3: what is handed in stays as it is, and is not kept; what is answered is the caller's.
func TestOwnLists(t *testing.T) {
	img := worn(t)
	was := copied(img)
	s := Mount(img)
	pick := []int{1, 2}
	done(t, s, write("/a", "x"), create("/b"), create("/c"))
	does(t, s.Write(12))
	s.Crash(pick)
	if !same(img, was) || !slices.Equal(pick, []int{1, 2}) {
		t.Error("what is handed in is changed")
	}
	before := tell(s)
	for _, l := range [][][]byte{img, s.Image(), s.Crash(nil), s.Crash(pick)} {
		for i, b := range l {
			for at := range b[:cap(b)] {
				b[:cap(b)][at] ^= 0xff
			}
			l[i] = nil
		}
	}
	names, _ := s.List("/")
	nodes := s.Tree()
	names[0], nodes[0] = "changed", api.Node{}
	if l, _ := s.List("/"); !before.same(tell(s)) || l[0] != "a" || s.Tree()[0].Path != "/" {
		t.Error("what is answered is kept")
	}
}
