package explore

import (
	"bytes"
	"math/rand"
	"slices"
	"testing"

	"selvedge/api"
	"selvedge/image"
	"selvedge/merge"
	"selvedge/plan"
	"selvedge/tree"
)

// The models here say by the chapter's words alone what is to be answered.

// membersOf are the numbers whose bits are set.
func membersOf(bits int) []int {
	var l []int
	for n := range 20 {
		if bits>>n&1 == 1 {
			l = append(l, n)
		}
	}
	return l
}

// numberOf is a set as a number.
func numberOf(l []int) int {
	bits := 0
	for _, n := range l {
		bits |= 1 << n
	}
	return bits
}

// ahead: must a come ahead of b?
func ahead(deps [][]int, a, b int) bool {
	for _, d := range deps[b] {
		if d == a || ahead(deps, a, d) {
			return true
		}
	}
	return false
}

// closedByWords are the closed sets, in order.
func closedByWords(deps [][]int) [][]int {
	var sets [][]int
	for bits := range 1 << len(deps) {
		whole := true
		for _, n := range membersOf(bits) {
			for _, d := range deps[n] {
				whole = whole && bits>>d&1 == 1
			}
		}
		if whole {
			sets = append(sets, membersOf(bits))
		}
	}
	return sets
}

// ordersByWords tries all orders.
func ordersByWords(deps [][]int, done int) int {
	if done == 1<<len(deps)-1 {
		return 1
	}
	many := 0
	for n, row := range deps {
		if done>>n&1 == 0 && numberOf(row)&^done == 0 {
			many += ordersByWords(deps, done|1<<n)
		}
	}
	return many
}

// widestByWords tries all sets.
func widestByWords(deps [][]int) int {
	widest := 0
	for bits := range 1 << len(deps) {
		l := membersOf(bits)
		apart := true
		for _, a := range l {
			for _, b := range l {
				apart = apart && !ahead(deps, a, b)
			}
		}
		if apart {
			widest = max(widest, len(l))
		}
	}
	return widest
}

// behind is an image behind some of the items, byte by byte.
func behind(img [][]byte, l []api.Item, set []int) [][]byte {
	left := copied(img)
	for _, i := range set {
		p := l[i].Patch
		for at := range len(p.Data) {
			if p.Block < len(left) {
				left[p.Block][p.Off+at] = p.Data[at]
			}
		}
	}
	return left
}

func depsOf(l []api.Item) [][]int {
	var deps [][]int
	for _, it := range l {
		deps = append(deps, it.Deps)
	}
	return deps
}

// holds fails the test, unless all that is asked of an image and items is as the words say.
func holds(t *testing.T, img [][]byte, l []api.Item) {
	t.Helper()
	var images [][][]byte
	var unsafe, worst []int
	found, most := false, -1
	for _, set := range closedByWords(depsOf(l)) {
		left := behind(img, l, set)
		if !slices.ContainsFunc(images, func(other [][]byte) bool { return sameImage(other, left) }) {
			images = append(images, left)
		}
		defects, e := image.Defects(left)
		if e != api.OK && !found {
			unsafe, found = set, true
		}
		if e == api.OK && len(defects) > most {
			worst, most = set, len(defects)
		}
	}
	if got, e := Images(img, l); e != api.OK || !slices.EqualFunc(got, images, sameImage) {
		t.Error("Images", l, e, len(got), len(images))
	}
	if got, ok, e := Unsafe(img, l); e != api.OK || ok != found || !slices.Equal(got, unsafe) {
		t.Error("Unsafe", l, e, ok, got, "not", found, unsafe)
	}
	if got, many, e := Worst(img, l); e != api.OK || many != most || !slices.Equal(got, worst) {
		t.Error("Worst", l, e, many, got, "not", most, worst)
	}
}

// holdsDeps fails the test, unless all that is asked of deps is as the words say.
func holdsDeps(t *testing.T, deps [][]int) {
	t.Helper()
	sets := closedByWords(deps)
	if many, e := Count(deps); e != api.OK || many != len(sets) {
		t.Error("Count", deps, many, e)
	}
	if len(sets) <= api.MaxClosed {
		for _, most := range []int{len(sets), api.MaxClosed} {
			if got, e := All(deps, most); e != api.OK || !slices.EqualFunc(got, sets, slices.Equal) {
				t.Error("All", deps, most, e, got)
			}
		}
	}
	less := len(sets) - 1
	want := api.ErrFull
	if less < 1 || less > api.MaxClosed {
		want = api.ErrRange
	}
	if got, e := All(deps, less); e != want || got != nil {
		t.Error("All", deps, less, e, got)
	}
	if got, e := Widest(deps); e != api.OK || got != widestByWords(deps) {
		t.Error("Widest", deps, got, e)
	}
}

// P23.1, P23.3: all deps of few numbers.
func TestOfAllSmallDeps(t *testing.T) {
	for n := range 6 {
		deps := make([][]int, n)
		var lay func(at int)
		lay = func(at int) {
			if at < n {
				for bits := range 1 << at {
					deps[at] = membersOf(bits)
					lay(at + 1)
				}
				return
			}
			holdsDeps(t, deps)
			if got, e := Orders(deps); e != api.OK || got != ordersByWords(deps, 0) {
				t.Error("Orders", deps, got, e)
			}
		}
		lay(0)
	}
}

// rows are deps of n numbers by chance; the greater sparse, the fewer. Some name one twice, some fall.
func rows(r *rand.Rand, n, sparse int) [][]int {
	deps := make([][]int, n)
	for b := range deps {
		for a := range b {
			for r.Intn(sparse) == 0 {
				deps[b] = append(deps[b], a)
			}
		}
		if r.Intn(2) == 0 {
			slices.Reverse(deps[b])
		}
	}
	return deps
}

// P23.1, P23.3
func TestOfDepsByChance(t *testing.T) {
	r := rand.New(rand.NewSource(1))
	for range 60 {
		deps := rows(r, 6+r.Intn(5), 2+r.Intn(8))
		holdsDeps(t, deps)
		if len(deps) <= 8 {
			if got, e := Orders(deps); e != api.OK || got != ordersByWords(deps, 0) {
				t.Error("Orders", deps, got, e)
			}
		}
	}
	for _, sparse := range []int{2, 3, 5, 9, 20} {
		holdsDeps(t, rows(r, 14, sparse))
	}
}

// worlds are safe images: new ones, and such as operations and crashes leave.
func worlds(t *testing.T) [][][]byte {
	t.Helper()
	l := [][][]byte{made(t, 16), made(t, 96)}
	img := made(t, 40)
	for _, o := range []api.Op{
		{Kind: api.Create, Path: "/a"}, {Kind: api.Write, Path: "/a", Data: "0123456789012345678901234567890123456789"}, {Kind: api.Mkdir, Path: "/d"}, {Kind: api.Create, Path: "/d/b"}, {Kind: api.Link, Path: "/a", Other: "/d/c"},
		{Kind: api.Mkdir, Path: "/e"}, {Kind: api.Write, Path: "/a", Off: 40, Data: string(bytes.Repeat([]byte("xyz"), 20))}, {Kind: api.Write, Path: "/a", Off: 100, Data: string(bytes.Repeat([]byte("!"), 64))},
	} {
		next, e := plan.Do(img, o)
		if e != api.OK {
			t.Fatal(o, e)
		}
		img = next
		l = append(l, img)
	}
	for _, o := range []api.Op{{Kind: api.Unlink, Path: "/d/c"}, {Kind: api.Rename, Path: "/a", Other: "/e/f"}, {Kind: api.Truncate, Path: "/a"}, {Kind: api.Create, Path: "/e/n"}} {
		left, e := plan.Some(img, o, []int{0})
		if e != api.OK || !image.Safe(left) {
			t.Fatal(o, e)
		}
		l = append(l, left)
	}
	return l
}

// someItems are items by chance: pieces of a plan, with deps left out, bytes of the first blocks, idle ones, ones of blocks that are not there.
func someItems(r *rand.Rand, img [][]byte) []api.Item {
	o := someOp(r)
	l, _ := plan.Plan(img, o)
	for range r.Intn(4) {
		b := r.Intn(13)
		p := api.Patch{Block: b, Off: r.Intn(32), Data: string(rune('0' + r.Intn(4)))}
		switch r.Intn(4) {
		case 0:
			p.Data = string(img[b][p.Off : p.Off+1])
		case 1:
			p.Block, p.Off, p.Data = 2, 1+r.Intn(len(img)/8-1), "\xff"
		case 2:
			p.Block = len(img) + r.Intn(api.MaxBlocks-len(img)+1) - 1
		}
		l = append(l, api.Item{Patch: p})
	}
	for i := range l {
		if r.Intn(3) == 0 {
			l[i].Deps = nil
		}
		if i > 0 && r.Intn(4) == 0 {
			l[i].Deps = append(l[i].Deps, r.Intn(i), r.Intn(i))
		}
	}
	return l[:min(len(l), 9)]
}

// someOp is an operation by chance.
func someOp(r *rand.Rand) api.Op {
	paths := []string{"/a", "/d", "/d/b", "/d/c", "/e", "/e/f", "/n", "/d/n"}
	path := func() string { return paths[r.Intn(len(paths))] }
	o := api.Op{Kind: api.OpKind(1 + r.Intn(8)), Path: path()}
	switch o.Kind {
	case api.Link, api.Rename:
		o.Other = path()
	case api.Write:
		o.Off, o.Data = r.Intn(60), string(bytes.Repeat([]byte{byte('a' + r.Intn(3))}, 1+r.Intn(64)))
	}
	return o
}

// P23.2
func TestOfItemsByChance(t *testing.T) {
	r := rand.New(rand.NewSource(2))
	all := worlds(t)
	for range 400 {
		img := all[r.Intn(len(all))]
		holds(t, img, someItems(r, img))
	}
}

// P23.2, P23.4, P23.5: of all operations, on all these images.
func TestTreesOfAll(t *testing.T) {
	r := rand.New(rand.NewSource(3))
	done := map[api.OpKind]int{}
	for _, img := range worlds(t) {
		for range 60 {
			o := someOp(r)
			l, e := plan.Plan(img, o)
			got, wrong := Trees(img, o)
			if e != wrong || e != api.OK && got != nil {
				t.Error(o, wrong, "not", e)
			}
			if e != api.OK {
				continue
			}
			done[o.Kind]++
			var want [][]api.Node
			for _, set := range closedByWords(depsOf(l)) {
				left, e := image.Tree(merge.Blocks(l, set, img))
				if e != api.OK {
					t.Error(o, set, e)
				}
				if !slices.ContainsFunc(want, func(other []api.Node) bool { return tree.Same(other, left) }) {
					want = append(want, left)
				}
			}
			if !slices.EqualFunc(got, want, tree.Same) {
				t.Error(o, got, "not", want)
			}
			was, _ := image.Tree(img)
			is, _ := tree.Apply(was, o)
			if !tree.Same(got[0], was) || !slices.ContainsFunc(got, func(other []api.Node) bool { return tree.Same(other, is) }) {
				t.Error(o, got)
			}
			if set, ok, e := Unsafe(img, l); ok || set != nil || e != api.OK {
				t.Error(o, set, ok, e)
			}
		}
	}
	for k := api.Create; k <= api.Truncate; k++ {
		if done[k] < 3 {
			t.Error("too few of kind", k, done[k])
		}
	}
}
