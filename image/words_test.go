package image

import (
	"bytes"
	"math/rand"
	"slices"
	"strings"
	"testing"

	"selvedge/api"
	"selvedge/layout"
)

// set: is a bit of a block set?
func set(b []byte, i int) bool { return b[i/8]>>(i%8)&1 == 1 }

// formedByWords says by the words alone whether an image is formed, and its inodes.
func formedByWords(img [][]byte) ([]api.Inode, bool) {
	if len(img) < 16 || len(img) > 96 || !bytes.Equal(img[0], append([]byte{'S', 'T', byte(len(img)), 16}, make([]byte, 28)...)) {
		return nil, false
	}
	for _, b := range img {
		if len(b) != 32 {
			return nil, false
		}
	}
	for i := range 256 {
		if i < 2 && !set(img[1], i) || i < 11 && !set(img[2], i) || i >= 16 && set(img[1], i) || i >= len(img) && set(img[2], i) {
			return nil, false
		}
	}
	var l []api.Inode
	for ino := range 16 {
		n, e := layout.ReadInode(img[3+ino/2][ino%2*16 : ino%2*16+16])
		if e != api.OK || slices.ContainsFunc(n.Blocks, func(b int) bool { return b >= len(img) }) {
			return nil, false
		}
		l = append(l, n)
	}
	return l, l[0].Kind == api.Free && l[1].Kind == api.Dir
}

// step is an entry of a directory that is reached: which one's, and its bytes.
type step struct {
	dir   int
	bytes string
}

// reachedByWords are, by the words alone, the inodes that are reached, and the entries of those that are directories.
func reachedByWords(img [][]byte, inodes []api.Inode) (map[int]int, []step) {
	reached := map[int]int{1: 1}
	for {
		var l []step
		for dir := range 16 {
			if reached[dir] == 0 || inodes[dir].Kind != api.Dir {
				continue
			}
			for _, b := range inodes[dir].Blocks {
				for eight := range slices.Chunk(img[b], 8) {
					if !bytes.Equal(eight, make([]byte, 8)) {
						l = append(l, step{dir, string(eight)})
					}
				}
			}
		}
		was := len(reached)
		for _, s := range l {
			if s.bytes[0] < 16 {
				reached[int(s.bytes[0])] = 1
			}
		}
		if len(reached) == was {
			return reached, l
		}
	}
}

// ownersByWords says by the words alone whether the bits of what is owned are set, and nothing is owned twice.
func ownersByWords(img [][]byte, inodes []api.Inode) bool {
	var owned []int
	for ino, n := range inodes {
		if n.Kind != api.Free && !set(img[1], ino) {
			return false
		}
		for _, b := range n.Blocks {
			if !set(img[2], b) || slices.Contains(owned, b) {
				return false
			}
			owned = append(owned, b)
		}
	}
	return true
}

// leading are how many entries lead to an inode.
func leading(entries []step, ino int) int {
	many := 0
	for _, s := range entries {
		if int(s.bytes[0]) == ino {
			many++
		}
	}
	return many
}

// safeByWords says by the words alone whether an image is safe.
func safeByWords(img [][]byte) bool {
	inodes, ok := formedByWords(img)
	if !ok || !ownersByWords(img, inodes) {
		return false
	}
	_, entries := reachedByWords(img, inodes)
	for i, s := range entries {
		e, r := layout.ReadEntry([]byte(s.bytes))
		if r != api.OK || inodes[e.Ino].Kind == api.Free || slices.ContainsFunc(entries[:i], func(o step) bool { return o.dir == s.dir && o.bytes[1:] == s.bytes[1:] }) {
			return false
		}
	}
	for ino, n := range inodes {
		many := leading(entries, ino)
		if n.Kind == api.Dir && many > 1 || ino == 1 && many > 0 || n.Kind == api.File && n.Links < many {
			return false
		}
	}
	for _, s := range entries {
		names := 1
		for dir := s.dir; dir != 1; names++ {
			dir = entries[slices.IndexFunc(entries, func(o step) bool { return int(o.bytes[0]) == dir })].dir
		}
		if names > 4 {
			return false
		}
	}
	return true
}

// bytesOf are an inode's Size bytes.
func bytesOf(img [][]byte, n api.Inode) string {
	var all string
	for _, b := range n.Blocks {
		all += string(img[b])
	}
	return all[:n.Size]
}

// treeByWords is the tree of a safe image, by the words alone.
func treeByWords(img [][]byte) []api.Node {
	inodes, _ := formedByWords(img)
	_, entries := reachedByWords(img, inodes)
	least := map[int]string{}
	all := map[string]int{}
	var under func(dir int, path string)
	under = func(dir int, path string) {
		for _, s := range entries {
			if s.dir == dir {
				ino := int(s.bytes[0])
				here := path + "/" + strings.TrimRight(s.bytes[1:], "\x00")
				all[here] = ino
				if first, ok := least[ino]; !ok || here < first {
					least[ino] = here
				}
				if inodes[ino].Kind == api.Dir {
					under(ino, here)
				}
			}
		}
	}
	under(1, "")
	tree := []api.Node{{Path: "/", Dir: true, First: "/"}}
	for path, ino := range all {
		tree = append(tree, api.Node{Path: path, Dir: inodes[ino].Kind == api.Dir, Data: bytesOf(img, inodes[ino]), First: least[ino]})
	}
	slices.SortFunc(tree, func(a, b api.Node) int { return strings.Compare(a.Path, b.Path) })
	return tree
}

// defectsByWords are those of a safe image, by the words alone, and what it reaches.
func defectsByWords(img [][]byte) (l []api.Defect, blocks, all []int) {
	inodes, _ := formedByWords(img)
	reached, entries := reachedByWords(img, inodes)
	for b := range img {
		of := slices.IndexFunc(inodes, func(n api.Inode) bool { return slices.Contains(n.Blocks, b) })
		if b < 11 || of >= 0 && reached[of] == 1 {
			blocks = append(blocks, b)
		} else if set(img[2], b) {
			l = append(l, api.Defect{What: api.LostBlock, Number: b})
		}
	}
	for ino := range inodes {
		if ino == 0 || reached[ino] == 1 {
			all = append(all, ino)
		} else if set(img[1], ino) {
			l = append(l, api.Defect{What: api.LostInode, Number: ino})
		}
	}
	for ino, n := range inodes {
		if n.Kind == api.File && reached[ino] == 1 && n.Links > leading(entries, ino) {
			l = append(l, api.Defect{What: api.ManyLinks, Number: ino})
		}
	}
	return l, blocks, all
}

// tells fails the test unless all that is told of an image is what the words say; how it is: 0 not formed, 1 formed, 2 safe.
func tells(t *testing.T, img [][]byte) int {
	t.Helper()
	inodes, ok := formedByWords(img)
	blocks, bits, e := Used(img)
	if (e == api.OK) != ok || e != api.OK && e != api.ErrForm {
		t.Fatal("Used", e, "formed", ok)
	}
	if ok {
		tellsInodes(t, img, inodes)
	}
	for i := range 256 {
		if ok && (slices.Contains(blocks, i) != set(img[2], i) || slices.Contains(bits, i) != set(img[1], i)) {
			t.Fatal("Used", blocks, bits)
		}
	}
	if safeByWords(img) != Safe(img) {
		t.Fatal("Safe", Safe(img), img)
	}
	if !Safe(img) {
		refuses(t, "unsafe", img)
		return map[bool]int{false: 0, true: 1}[ok]
	}
	tellsTree(t, img)
	want, wantBlocks, wantInodes := defectsByWords(img)
	if l, e := Defects(img); e != api.OK || !slices.Equal(l, want) || Clean(img) != (len(want) == 0) {
		t.Fatal("Defects", l, want)
	}
	if blocks, all, e := Reached(img); e != api.OK || !slices.Equal(blocks, wantBlocks) || !slices.Equal(all, wantInodes) {
		t.Fatal("Reached", blocks, all)
	}
	return 2
}

// tellsInodes asks the inodes of a formed image.
func tellsInodes(t *testing.T, img [][]byte, inodes []api.Inode) {
	t.Helper()
	for ino, want := range inodes {
		if n, e := Inode(img, ino); e != api.OK || !layout.Same(n, want) {
			t.Fatal("Inode", ino, n, e)
		}
		s, e := Data(img, ino)
		if wrong := []api.Errno{api.ErrNoent, api.OK, api.ErrIsdir}[want.Kind]; e != wrong || e == api.OK && s != bytesOf(img, want) || e != api.OK && s != "" {
			t.Fatal("Data", ino, s, e)
		}
		var l []api.Entry
		wrong := api.OK
		for _, b := range want.Blocks {
			for eight := range slices.Chunk(img[b], 8) {
				entry, e := layout.ReadEntry(eight)
				if wrong = max(wrong, e); entry.Name != "" {
					l = append(l, entry)
				}
			}
		}
		if want.Kind != api.Dir {
			wrong = api.ErrNotdir
		}
		if wrong != api.OK {
			l = nil
		}
		if got, e := Entries(img, ino); e != wrong || !slices.Equal(got, l) {
			t.Fatal("Entries", ino, got, e)
		}
	}
}

// tellsTree asks the tree of a safe image, and finds all its paths.
func tellsTree(t *testing.T, img [][]byte) {
	t.Helper()
	want := treeByWords(img)
	if l, e := Tree(img); e != api.OK || !slices.Equal(l, want) {
		t.Fatal("Tree", l, want)
	}
	for _, n := range want {
		ino, e := Find(img, n.Path)
		first, r := Find(img, n.First)
		if e != api.OK || r != api.OK || ino != first {
			t.Fatal("Find", n, ino, first)
		}
		if s, _ := Data(img, ino); s != n.Data {
			t.Fatal("Find", n, s)
		}
		wrong := api.ErrNotdir
		if n.Dir {
			wrong = api.ErrNoent
		}
		below := strings.TrimRight(n.Path, "/") + "/no-name"
		if strings.Count(below, "/") > 4 {
			wrong = api.ErrForm
		}
		if ino, e := Find(img, below); ino != 0 || e != wrong {
			t.Fatal("Find", below, ino, e)
		}
	}
}

// P10.1, P10.2: all images that differ from one in one byte, against the words.
func TestOneByteAgainstTheWords(t *testing.T) {
	var how [3]int
	for _, img := range [][][]byte{worn(t), made(t, 16)} {
		if tells(t, img) != 2 {
			t.Fatal("not safe")
		}
		for i := range min(len(img), 23) { // the others say nothing, or a few bytes alone
			for at := range img[i] {
				was := img[i][at]
				for _, v := range []byte{0, 1, 2, 3, 5, 9, 10, 11, 14, 15, 16, 18, 47, 48, 'a', 'd', was ^ 1, was ^ 2, was ^ 64, 255} {
					img[i][at] = v
					how[tells(t, img)]++
				}
				img[i][at] = was
			}
		}
	}
	if how[0] < 1000 || how[1] < 1000 || how[2] < 1000 {
		t.Error("too few of one kind to tell anything:", how)
	}
}

// shake changes an image at some places, most of them such as say something.
func shake(chance *rand.Rand, img [][]byte) {
	names := []string{"a", "b", "d", "e", "x", "a-b", "abcdefg"}
	for range 1 + chance.Intn(5) {
		block := 11 + chance.Intn(12)
		switch chance.Intn(8) {
		case 0:
			img[chance.Intn(len(img))][chance.Intn(32)] = byte(chance.Intn(256))
		case 1, 2, 3:
			enter(img, block, chance.Intn(4), names[chance.Intn(len(names))], 1+chance.Intn(12))
		case 4:
			enter(img, block, chance.Intn(4), "", 0)
		case 5:
			put(img, 2+chance.Intn(14), dir(block+12))
		case 6:
			put(img, 2+chance.Intn(14), file(1+chance.Intn(4), 1+chance.Intn(32), block))
		case 7:
			put(img, 2+chance.Intn(14), api.Inode{})
		}
	}
}

// P10.1, P10.2, P10.4: images that differ from one at some places, against the words.
func TestShakenAgainstTheWords(t *testing.T) {
	chance := rand.New(rand.NewSource(10))
	var how [3]int
	for range 12000 {
		img := sound(t)
		if chance.Intn(2) == 0 {
			img = worn(t)
		}
		shake(chance, img)
		how[tells(t, img)]++
		if !Clean(img) {
			continue
		}
		blocks, inodes, _ := Used(img)
		some, others, _ := Reached(img)
		if !slices.Equal(blocks, some) || !slices.Equal(inodes, others) {
			t.Fatal("clean, and uses another thing than it reaches", img)
		}
	}
	if how[0] < 500 || how[1] < 500 || how[2] < 500 {
		t.Error("too few of one kind to tell anything:", how)
	}
}
