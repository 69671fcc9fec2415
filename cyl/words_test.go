package cyl

import (
	"math/rand"
	"testing"

	"selvedge/api"
)

// words are groups told by the chapter's words alone.
type words []cylinder

type cylinder struct {
	blocks, rotor int
	used          [64]bool
	inodes        [16]bool
}

func (w words) freeBlocks(g int) int {
	many := 0
	for b := range w[g].blocks {
		if !w[g].used[b] {
			many++
		}
	}
	return many
}

func (w words) freeInodes(g int) int {
	many := 0
	for _, used := range w[g].inodes {
		if !used {
			many++
		}
	}
	return many
}

// told are the groups as lists.
func (w words) told() []api.Cyl {
	var l []api.Cyl
	for g, c := range w {
		told := api.Cyl{Index: g, Blocks: c.blocks, Rotor: c.rotor, FreeBlocks: w.freeBlocks(g), FreeInodes: w.freeInodes(g)}
		for b, used := range c.used {
			if used {
				told.Used = append(told.Used, b)
			}
		}
		for ino, used := range c.inodes {
			if used {
				told.Inodes = append(told.Inodes, ino)
			}
		}
		l = append(l, told)
	}
	return l
}

func (w words) isBlock(a api.Addr) bool {
	return a.Group >= 0 && a.Group < len(w) && a.Block >= 0 && a.Block < w[a.Group].blocks
}

func (w words) take(near api.Addr) (api.Addr, api.Errno) {
	if !w.isBlock(near) {
		return api.Addr{}, api.ErrRange
	}
	for k := range w {
		g := (near.Group + k) % len(w)
		from := w[g].rotor
		if k == 0 {
			from = near.Block
		}
		for j := range w[g].blocks {
			b := (from + j) % w[g].blocks
			if !w[g].used[b] {
				w[g].used[b] = true
				w[g].rotor = b + 1
				if b+1 == w[g].blocks {
					w[g].rotor = 0
				}
				return api.Addr{Group: g, Block: b}, api.OK
			}
		}
	}
	return api.Addr{}, api.ErrSpace
}

func (w words) give(a api.Addr) api.Errno {
	if !w.isBlock(a) {
		return api.ErrRange
	}
	if !w[a.Group].used[a.Block] {
		return api.ErrNoent
	}
	w[a.Group].used[a.Block] = false
	return api.OK
}

func (w words) leave(a api.Addr) api.Errno {
	if a.Group < 0 || a.Group >= len(w) || a.Block < 0 || a.Block > 15 {
		return api.ErrRange
	}
	if !w[a.Group].inodes[a.Block] {
		return api.ErrNoent
	}
	w[a.Group].inodes[a.Block] = false
	return api.OK
}

// first takes the first free inode of a group.
func (w words) first(g int) (api.Addr, api.Errno) {
	for ino := range 16 {
		if !w[g].inodes[ino] {
			w[g].inodes[ino] = true
			return api.Addr{Group: g, Block: ino}, api.OK
		}
	}
	return api.Addr{}, api.ErrSpace
}

func (w words) dir() (api.Addr, api.Errno) {
	all := 0
	for g := range w {
		all += w.freeInodes(g)
	}
	best := -1
	for g := range w {
		if w.freeInodes(g) >= all/len(w) && w.freeInodes(g) >= 1 && (best < 0 || w.freeBlocks(g) > w.freeBlocks(best)) {
			best = g
		}
	}
	if best < 0 {
		return api.Addr{}, api.ErrSpace
	}
	return w.first(best)
}

func (w words) file(group int) (api.Addr, api.Errno) {
	if group < 0 || group >= len(w) {
		return api.Addr{}, api.ErrRange
	}
	behind := []int{0}
	for _, k := range []int{1, 3, 7, 15} {
		if k <= len(w) {
			behind = append(behind, k)
		}
	}
	for k := range w {
		behind = append(behind, k)
	}
	for _, k := range behind {
		if g := (group + k) % len(w); w.freeInodes(g) > 0 {
			return w.first(g)
		}
	}
	return api.Addr{}, api.ErrSpace
}

// followsTaken fails the test unless what was answered was free, is used, and is taken back but for the Rotor: P18.4.
func followsTaken(t *testing.T, was, is []api.Cyl, a api.Addr, inode bool) {
	t.Helper()
	back, e := Give(is, a)
	_, r := Give(was, a)
	if inode {
		back, e = Leave(is, a)
		_, r = Leave(was, a)
	}
	if e != api.OK || r != api.ErrNoent {
		t.Fatal("P18.4: free, and used", a, e, r)
	}
	back[a.Group].Rotor = was[a.Group].Rotor
	if !same(back, was) {
		t.Fatal("P18.4: taken back", a)
	}
}

// step does something by chance with both; the groups behind it, what was done, and its error.
func step(t *testing.T, chance *rand.Rand, l []api.Cyl, w words) ([]api.Cyl, string, api.Errno) {
	t.Helper()
	a := api.Addr{Group: chance.Intn(len(l)), Block: chance.Intn(l[0].Blocks + 1)}
	if chance.Intn(20) == 0 {
		a = api.Addr{Group: chance.Intn(len(l)+2) - 1, Block: chance.Intn(70) - 1}
	}
	what := []string{"Take", "Take", "Take", "File", "File", "Dir", "Dir", "Give", "Give", "Leave", "Leave"}[chance.Intn(11)]
	var next []api.Cyl
	var got, want api.Addr
	var e, r api.Errno
	switch what {
	case "Take":
		next, got, e = Take(l, a)
		want, r = w.take(a)
	case "File":
		next, got, e = File(l, a.Group)
		want, r = w.file(a.Group)
	case "Dir":
		next, got, e = Dir(l)
		want, r = w.dir()
	case "Give":
		next, e = Give(l, a)
		r = w.give(a)
	case "Leave":
		next, e = Leave(l, a)
		r = w.leave(a)
	}
	if got != want || e != r {
		t.Fatal(what, a, "of", l, "answers", got, e, "not", want, r)
	}
	if e != api.OK {
		if next != nil {
			t.Fatal(what, "answers groups beside an error")
		}
		return l, what, e
	}
	if what == "Take" || what == "File" || what == "Dir" {
		followsTaken(t, l, next, got, what != "Take")
	}
	return next, what, e
}

// holds fails the test unless groups are as the words say, and what follows holds.
func holds(t *testing.T, l []api.Cyl, w words) {
	t.Helper()
	if !same(l, w.told()) || !Whole(l) {
		t.Fatal(l, "not", w.told())
	}
	blocks, inodes := Free(l)
	most, least := 0, 64
	for g, c := range l {
		blocks -= w.freeBlocks(g)
		inodes -= w.freeInodes(g)
		most, least = max(most, w.freeBlocks(g)), min(least, w.freeBlocks(g))
		b, _ := Encode(c)
		if d, e := Decode(b); !Same(c, d) || e != api.OK {
			t.Fatal(c, b, d, e)
		}
	}
	if blocks != 0 || inodes != 0 || Spread(l) != most-least {
		t.Fatal(blocks, inodes, Spread(l), most, least)
	}
	// P18.5
	blocks, inodes = Free(l)
	_, _, b := Take(l, api.Addr{})
	_, _, f := File(l, len(l)-1)
	_, _, d := Dir(l)
	if (b == api.OK) != (blocks > 0) || (f == api.OK) != (inodes > 0) || (d == api.OK) != (inodes > 0) {
		t.Fatal("P18.5", blocks, b, inodes, f, d)
	}
}

// P18.1 to P18.5: long rows of calls against the words.
func TestAgainstTheWords(t *testing.T) {
	chance := rand.New(rand.NewSource(18))
	times := map[string]map[api.Errno]int{}
	for many := 1; many <= 16; many++ {
		for range 3 {
			w := make(words, many)
			var l []api.Cyl
			for g := range w {
				w[g].blocks = 1 + chance.Intn([]int{4, 16, 64}[chance.Intn(3)])
				c, e := New(g, w[g].blocks)
				if e != api.OK {
					t.Fatal(e)
				}
				l = append(l, c)
			}
			for range 60 * many {
				var what string
				var e api.Errno
				l, what, e = step(t, chance, l, w)
				if times[what] == nil {
					times[what] = map[api.Errno]int{}
				}
				times[what][e]++
				holds(t, l, w)
			}
		}
	}
	for what, errs := range map[string][]api.Errno{
		"Take": {api.OK, api.ErrRange, api.ErrSpace}, "Give": {api.OK, api.ErrRange, api.ErrNoent},
		"File": {api.OK, api.ErrRange}, "Dir": {api.OK}, "Leave": {api.OK, api.ErrRange, api.ErrNoent},
	} {
		for _, e := range errs {
			if times[what][e] < 20 {
				t.Error("too few of", what, e, times)
			}
		}
	}
}
