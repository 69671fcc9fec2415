package check

import (
	"math/rand"
	"slices"
	"strings"
	"testing"

	"selvedge/api"
	"selvedge/graph"
	"selvedge/image"
	"selvedge/patch"
	"selvedge/plan"
	"selvedge/tree"
)

// countsByWords are how many paths of the tree lead to each inode.
func countsByWords(t *testing.T, img [][]byte) []int {
	t.Helper()
	nodes, e := image.Tree(img)
	if e != api.OK {
		t.Fatal("Tree", e)
	}
	counts := make([]int, 16)
	for _, n := range nodes {
		if n.Path != "/" {
			ino, _ := image.Find(img, n.Path)
			counts[ino]++
		}
	}
	return counts
}

// bytesByWords are the patches of the bytes of a block in which not just some bits are set.
func bytesByWords(img [][]byte, block int, should []int) []api.Patch {
	var l []api.Patch
	for at := range 32 {
		var want byte
		for bit := range 8 {
			if slices.Contains(should, at*8+bit) {
				want |= 1 << bit
			}
		}
		if img[block][at] != want {
			l = append(l, api.Patch{Block: block, Off: at, Data: string([]byte{want})})
		}
	}
	return l
}

// planByWords are the patches of a safe image.
func planByWords(t *testing.T, img [][]byte) []api.Patch {
	t.Helper()
	counts := countsByWords(t, img)
	var zero, links []api.Patch
	inodes, blocks := []int{0, 1}, []int{0, 1, 2, 3, 4, 5, 6, 7, 8, 9, 10}
	for ino := 1; ino < 16; ino++ {
		n, _ := image.Inode(img, ino)
		block, off := 3+ino/2, ino%2*16
		switch {
		case ino == 1 || counts[ino] > 0:
			inodes, blocks = append(inodes, ino), append(blocks, n.Blocks...)
			if n.Kind == api.File && n.Links > counts[ino] {
				links = append(links, api.Patch{Block: block, Off: off + 1, Data: string([]byte{byte(counts[ino])})})
			}
		case n.Kind != api.Free:
			zero = append(zero, api.Patch{Block: block, Off: off, Data: strings.Repeat("\x00", 16)})
		}
	}
	return slices.Concat(zero, links, bytesByWords(img, 1, inodes), bytesByWords(img, 2, blocks))
}

// holds fails the test unless all that is asked of a safe image is what the words say.
func holds(t *testing.T, img [][]byte) {
	t.Helper()
	want := planByWords(t, img)
	l, e := Plan(img)
	if e != api.OK || !slices.Equal(l, want) || len(l) > Bound(len(img)) {
		t.Fatal("Plan", e, l, "not", want)
	}
	found, _ := image.Defects(img)
	next, defects, e := Check(img)
	if e != api.OK || !slices.Equal(defects, found) || !image.Clean(next) {
		t.Fatal("Check", e, defects, "not", found)
	}
	if again, e := Plan(next); e != api.OK || len(again) != 0 {
		t.Fatal("checked again", e, again)
	}
	holdsBeginnings(t, img, l, next)
	blocks, inodes, e := Lost(img)
	var lost []api.Defect
	for _, block := range blocks {
		lost = append(lost, api.Defect{What: api.LostBlock, Number: block})
	}
	for _, ino := range inodes {
		lost = append(lost, api.Defect{What: api.LostInode, Number: ino})
	}
	many := slices.DeleteFunc(slices.Clone(found), func(d api.Defect) bool { return d.What != api.ManyLinks })
	if e != api.OK || !slices.Equal(append(lost, many...), found) {
		t.Fatal("Lost", e, blocks, inodes, found)
	}
	if counts, e := Counts(img); e != api.OK || !slices.Equal(counts, countsByWords(t, img)) {
		t.Fatal("Counts", e, counts)
	}
}

// holdsBeginnings fails the test unless behind each beginning of the patches the image is safe, with the same tree, and is checked to the same end.
func holdsBeginnings(t *testing.T, img [][]byte, l []api.Patch, end [][]byte) {
	t.Helper()
	was, _ := image.Tree(img)
	part := slices.Clone(img)
	for i := range len(l) + 1 {
		is, e := image.Tree(part)
		if e != api.OK || !tree.Same(is, was) {
			t.Fatal("behind", i, "of", l, e, is)
		}
		if next, _, e := Check(part); e != api.OK || !sameImage(next, end) {
			t.Fatal("checked behind", i, "of", l, e)
		}
		if i < len(l) {
			part[l[i].Block], _ = patch.Apply(part[l[i].Block], l[i])
		}
	}
	if !sameImage(part, end) {
		t.Fatal("the patches do not make what Check answers", l)
	}
}

// chanceOp is an operation, often one that may be.
func chanceOp(chance *rand.Rand) api.Op {
	path := func() string {
		var all strings.Builder
		for range 1 + chance.Intn(2)*chance.Intn(2) {
			all.WriteString("/" + string([]byte{byte('a' + chance.Intn(7))}))
		}
		return all.String()
	}
	o := api.Op{Kind: api.OpKind(1 + chance.Intn(8)), Path: path()}
	switch o.Kind {
	case api.Link, api.Rename:
		o.Other = path()
	case api.Write:
		o.Data = strings.Repeat("x", 1+chance.Intn(64))
	}
	return o
}

// chancePart is an image behind an operation; now and then behind a part of it, as a crash may leave it.
func chancePart(t *testing.T, chance *rand.Rand, img [][]byte, o api.Op) [][]byte {
	t.Helper()
	l, e := plan.Plan(img, o)
	if e != api.OK {
		return img
	}
	if chance.Intn(3) > 0 {
		next, _ := plan.Do(img, o)
		return next
	}
	deps := make([][]int, len(l))
	var some []int
	for i, item := range l {
		deps[i] = item.Deps
		if chance.Intn(2) == 0 {
			some = append(some, i)
		}
	}
	next, e := plan.Some(img, o, graph.Close(deps, some))
	if e != api.OK {
		t.Fatal(o, some, e)
	}
	return next
}

// spoil lets a safe image, which is changed, have one thing more that is lost.
func spoil(chance *rand.Rand, img [][]byte) {
	ino, block := 2+chance.Intn(14), 11+chance.Intn(len(img)-11)
	n, _ := image.Inode(img, ino)
	used, _, _ := image.Used(img)
	switch {
	case n.Kind == api.File && n.Links < 255:
		put(img, ino, n.Kind, n.Links+1+chance.Intn(255-n.Links), n.Size, n.Blocks...)
	case n.Kind == api.Free && !slices.Contains(used, block):
		copy(img[block], "lost, and no entries")
		put(img, ino, api.Dir, 1, 0, block)
	case chance.Intn(2) == 0:
		mark(img, 1, ino)
	default:
		mark(img, 2, block)
	}
}

// P14.1 to P14.5, E5: what rows of operations leave that stop half way, and more that is lost.
func TestAgainstTheWords(t *testing.T) {
	chance := rand.New(rand.NewSource(14))
	kinds := map[api.DefectKind]int{}
	for range 150 {
		img := made(t, 16+chance.Intn(81))
		for i := range 40 {
			img = chancePart(t, chance, img, chanceOp(chance))
			if i%4 > 0 {
				continue
			}
			if chance.Intn(4) == 0 {
				img, _, _ = Check(img)
			}
			holds(t, img)
			worse := slices.Clone(img)
			for at, b := range worse {
				worse[at] = slices.Clone(b)
			}
			for range chance.Intn(8) {
				spoil(chance, worse)
			}
			holds(t, worse)
			found, _ := image.Defects(worse)
			for _, d := range found {
				kinds[d.What]++
			}
		}
	}
	for _, kind := range []api.DefectKind{api.LostBlock, api.LostInode, api.ManyLinks} {
		if kinds[kind] < 300 {
			t.Error("too few of", kind, kinds)
		}
	}
}
