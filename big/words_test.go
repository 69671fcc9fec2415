package big

import (
	"math/rand"
	"slices"
	"testing"

	"selvedge/api"
	"selvedge/merge"
	"selvedge/patch"
)

// words are a file on an image, told by the chapter's words alone.
type words struct {
	img [][]byte
	f   api.Big
}

func (w words) copied() words { return words{copied(w.img), w.f} }

// slot is what stands in a slot of a block of pointers; of none nothing.
func (w words) slot(block, slot int) int {
	if block == 0 {
		return 0
	}
	return int(w.img[block][slot])
}

// kth is where the k-th block lies.
func (w words) kth(k int) int {
	if k < 6 {
		return w.f.Direct[k]
	}
	if k < 38 {
		return w.slot(w.f.Indirect, k-6)
	}
	j := k - 38
	return w.slot(w.slot(w.f.Double, j/32), j%32)
}

// right tells it by going through all pointers, of a file that may be any.
func (w words) right() bool {
	if len(w.img) > 96 {
		return false
	}
	for _, b := range w.img {
		if len(b) != 32 {
			return false
		}
	}
	var all []int
	wrong := false
	behind := func(block int) []int { // the pointers of a block of pointers
		var l []int
		if block < 0 || block >= len(w.img) {
			wrong = true
		} else if block != 0 {
			for _, at := range w.img[block] {
				l = append(l, int(at))
			}
		}
		return l
	}
	all = append(all, w.f.Direct[:]...)
	all = append(all, w.f.Indirect, w.f.Double)
	all = append(all, behind(w.f.Indirect)...)
	for _, inner := range behind(w.f.Double) {
		all = append(all, inner)
		all = append(all, behind(inner)...)
	}
	times := map[int]int{}
	for _, at := range all {
		if at < 0 || at >= len(w.img) {
			wrong = true
		}
		times[at]++
	}
	for at, n := range times {
		if at != 0 && n > 1 {
			wrong = true
		}
	}
	return !wrong
}

// all and inner are what All and Inner say.
func (w words) all() (places, blocks []int) {
	for k := range 1062 {
		if at := w.kth(k); at != 0 {
			places, blocks = append(places, k), append(blocks, at)
		}
	}
	return places, blocks
}

func (w words) inner() []int {
	l := []int{w.f.Indirect, w.f.Double}
	for slot := range 32 {
		l = append(l, w.slot(w.f.Double, slot))
	}
	return slices.DeleteFunc(l, func(at int) bool { return at == 0 })
}

// refuses is the error of a Put.
func (w words) refuses(k, block int, free []int) api.Errno {
	if k < 0 || k > 1061 {
		return api.ErrRange
	}
	for _, at := range append([]int{block}, free...) {
		if at <= 0 || at >= len(w.img) {
			return api.ErrRange
		}
	}
	_, there := w.all()
	there = append(there, w.inner()...)
	if slices.Contains(there, block) || slices.Contains(free, block) {
		return api.ErrExist
	}
	for i, at := range free {
		if slices.Contains(there, at) || slices.Contains(free[:i], at) {
			return api.ErrExist
		}
	}
	if w.kth(k) != 0 {
		return api.ErrBusy
	}
	need := 0
	if k >= 6 && k < 38 && w.f.Indirect == 0 {
		need = 1
	}
	if k >= 38 && w.f.Double == 0 {
		need = 2
	} else if k >= 38 && w.slot(w.f.Double, (k-38)/32) == 0 {
		need = 1
	}
	if len(free) < need {
		return api.ErrSpace
	}
	return api.OK
}

// put does a Put that has no error: how many of free were needed, and the blocks that are changed.
func (w *words) put(k, block int, free []int) (int, []int) {
	taken := 0
	var changed []int
	there := func(at int) int {
		if at != 0 {
			return at
		}
		at = free[taken]
		taken++
		clear(w.img[at])
		return at
	}
	set := func(holder, slot, at int) {
		if int(w.img[holder][slot]) != at {
			changed = append(changed, holder)
		}
		w.img[holder][slot] = byte(at)
	}
	if k < 6 {
		w.f.Direct[k] = block
	} else if k < 38 {
		w.f.Indirect = there(w.f.Indirect)
		set(w.f.Indirect, k-6, block)
	} else {
		w.f.Double = there(w.f.Double)
		inner := there(w.slot(w.f.Double, (k-38)/32))
		set(w.f.Double, (k-38)/32, inner)
		set(inner, (k-38)%32, block)
	}
	return taken, changed
}

// cut does a Cut: the blocks that are free then.
func (w *words) cut(k int) []int {
	var free []int
	places, blocks := w.all()
	for i, place := range places {
		if place < k {
			continue
		}
		free = append(free, blocks[i])
		if place < 6 {
			w.f.Direct[place] = 0
		} else if place < 38 {
			w.img[w.f.Indirect][place-6] = 0
		} else {
			w.img[w.slot(w.f.Double, (place-38)/32)][(place-38)%32] = 0
		}
	}
	empty := func(block int) bool {
		return block != 0 && slices.Max(w.img[block]) == 0
	}
	for slot := range 32 {
		if inner := w.slot(w.f.Double, slot); empty(inner) {
			free = append(free, inner)
			w.img[w.f.Double][slot] = 0
		}
	}
	if empty(w.f.Indirect) {
		free = append(free, w.f.Indirect)
		w.f.Indirect = 0
	}
	if empty(w.f.Double) {
		free = append(free, w.f.Double)
		w.f.Double = 0
	}
	return free
}

// tells fails the test unless all that is asked of a file is what the words say.
func tells(t *testing.T, chance *rand.Rand, w words) {
	t.Helper()
	if !Right(w.img, w.f) || !w.right() {
		t.Fatal("not right", w)
	}
	places, blocks := w.all()
	p, b, e := All(w.img, w.f)
	if !slices.Equal(p, places) || !slices.Equal(b, blocks) || e != api.OK {
		t.Fatal("All", p, b, e)
	}
	if l, e := Inner(w.img, w.f); !slices.Equal(l, w.inner()) || e != api.OK {
		t.Fatal("Inner", l, e)
	}
	for _, k := range append(places, chance.Intn(40), chance.Intn(1062)) {
		if at, e := Get(w.img, w.f, k); at != w.kth(k) || e != api.OK {
			t.Fatal("Get", k, at, e)
		}
	}
	bytes, e := Encode(w.f)
	if f, r := Decode(bytes); f != w.f || e != api.OK || r != api.OK {
		t.Fatal("Encode", bytes, e, r)
	}
}

// place is one by chance, most often near others; once in a while none.
func place(chance *rand.Rand) int {
	switch chance.Intn(8) {
	case 0:
		return chance.Intn(1066) - 2
	case 1, 2:
		return chance.Intn(6)
	case 3, 4:
		return 6 + chance.Intn(32)
	case 5:
		return 38 + 32*31 + chance.Intn(32)
	}
	return 38 + chance.Intn(100)
}

// asked are a block, and some that are free, by chance: most often such as may be.
func (w words) asked(chance *rand.Rand) (int, []int) {
	_, there := w.all()
	there = append(there, w.inner()...)
	var l []int
	for at := 1; at < len(w.img); at++ {
		if !slices.Contains(there, at) {
			l = append(l, at)
		}
	}
	chance.Shuffle(len(l), func(i, j int) { l[i], l[j] = l[j], l[i] })
	l = l[:min(len(l), 1+chance.Intn(4))]
	if len(l) == 0 || chance.Intn(12) == 0 {
		l = append(l, chance.Intn(len(w.img)+2)-1)
	}
	if chance.Intn(12) == 0 {
		l = append(l, l[chance.Intn(len(l))])
	}
	return l[0], l[1:]
}

// putOne puts something by chance with both: the file behind it, and the error.
func putOne(t *testing.T, chance *rand.Rand, w words) (words, api.Errno) {
	t.Helper()
	k := place(chance)
	block, free := w.asked(chance)
	want := w.refuses(k, block, free)
	kept, own := w.copied(), slices.Clone(free)
	next, f, n, e := Put(w.img, w.f, k, block, free)
	l, r := Patches(w.img, w.f, k, block, free)
	if e != want || r != want || !same(w.img, kept.img) || !slices.Equal(free, own) {
		t.Fatal("Put", k, block, free, e, r, want)
	}
	if want != api.OK {
		if next != nil || f != (api.Big{}) || n != 0 || l != nil {
			t.Fatal("with an error", next, f, n, l)
		}
		return w, want
	}
	behind := w.copied()
	needed, changed := behind.put(k, block, free)
	if !same(next, behind.img) || f != behind.f || n != needed {
		t.Fatal("Put", k, block, free, next, f, n)
	}
	patched(t, kept, behind, free[:needed], changed, l)
	for other := range 1062 { // P19.4
		if at := behind.kth(other); other == k && at != block || other != k && at != kept.kth(other) {
			t.Fatal("P19.4", other, at)
		}
	}
	return words{next, f}, want
}

// patched fails the test unless patches make one image the other one, with those of new blocks of pointers first, behind none, and then one byte behind all.
func patched(t *testing.T, was, is words, fresh, changed []int, l []api.Item) {
	t.Helper()
	for i, one := range l {
		b, e := patch.Apply(was.img[one.Patch.Block], one.Patch)
		if e != api.OK {
			t.Fatal(one)
		}
		was.img[one.Patch.Block] = b
		if i < len(fresh) {
			if one.Patch.Block != fresh[i] || one.Patch.Off != 0 || len(one.Patch.Data) != 32 || len(one.Deps) != 0 {
				t.Fatal("of a new one", one, fresh)
			}
			changed = slices.DeleteFunc(changed, func(at int) bool { return at == one.Patch.Block })
			continue
		}
		var all []int
		for n := range i {
			all = append(all, n)
		}
		if len(one.Patch.Data) != 1 || !slices.Equal(one.Deps, all) || !slices.Equal(changed, []int{one.Patch.Block}) {
			t.Fatal("of one that was there", one, changed)
		}
		changed = nil
	}
	if !same(was.img, is.img) || len(changed) > 0 || !merge.Right(l) {
		t.Fatal("patches", l, changed)
	}
}

// cutOne cuts by chance with both.
func cutOne(t *testing.T, chance *rand.Rand, w words) (words, api.Errno) {
	t.Helper()
	k := []int{0, 1062, chance.Intn(6), 6, 38, place(chance), place(chance), -1 - chance.Intn(3), 1063 + chance.Intn(3)}[chance.Intn(9)]
	kept := w.copied()
	next, f, free, e := Cut(w.img, w.f, k)
	if !same(w.img, kept.img) {
		t.Fatal("changed")
	}
	if k < 0 || k > 1062 {
		if next != nil || f != (api.Big{}) || free != nil || e != api.ErrRange {
			t.Fatal("Cut", k, next, f, free, e)
		}
		return w, e
	}
	behind := w.copied()
	if want := behind.cut(k); !slices.Equal(free, want) || !same(next, behind.img) || f != behind.f || e != api.OK {
		t.Fatal("Cut", k, free, want, next, f, e)
	}
	if k == 0 { // P19.5
		_, all := kept.all()
		all = append(all, kept.inner()...)
		gone := slices.Clone(free)
		slices.Sort(all)
		slices.Sort(gone)
		if f != (api.Big{}) || !slices.Equal(gone, all) {
			t.Fatal("P19.5", f, free)
		}
	}
	return words{next, f}, e
}

// P19.1 to P19.6: long rows of calls against the words.
func TestAgainstTheWords(t *testing.T) {
	chance := rand.New(rand.NewSource(19))
	puts, cuts := map[api.Errno]int{}, map[api.Errno]int{}
	for round := range 200 {
		w := words{img: make([][]byte, []int{96, 96, 12, 1 + chance.Intn(96)}[round%4])}
		for i := range w.img {
			w.img[i] = make([]byte, 32)
			chance.Read(w.img[i])
		}
		for range 80 {
			var e api.Errno
			if chance.Intn(12) == 0 {
				w, e = cutOne(t, chance, w)
				cuts[e]++
			} else {
				w, e = putOne(t, chance, w)
				puts[e]++
			}
			tells(t, chance, w) // P19.6 too
		}
	}
	for _, e := range []api.Errno{api.OK, api.ErrRange, api.ErrExist, api.ErrBusy, api.ErrSpace} {
		if puts[e] < 100 {
			t.Error("too few", e, puts)
		}
	}
	if cuts[api.OK] < 500 || cuts[api.ErrRange] < 100 {
		t.Error("too few", cuts)
	}
}

// P19.1: what is right, of files of which some byte is changed, or of any at all.
func TestRightAgainstTheWords(t *testing.T) {
	chance := rand.New(rand.NewSource(191))
	times := map[bool]int{}
	numbers := func() int {
		return []int{0, 0, 0, chance.Intn(40), chance.Intn(40), chance.Intn(300) - 20}[chance.Intn(6)]
	}
	for range 40000 {
		w := words{}
		w.img, w.f = example()
		for range chance.Intn(3) {
			holder := []int{10, 20, 21, 22, 30}[chance.Intn(5)]
			w.img[holder][chance.Intn(32)] = byte(max(0, numbers()))
		}
		if chance.Intn(3) == 0 {
			w.f.Direct[chance.Intn(6)] = numbers()
		}
		if chance.Intn(6) == 0 {
			w.f.Indirect = numbers()
		}
		if chance.Intn(6) == 0 {
			w.f.Double = numbers()
		}
		right := w.right()
		times[right]++
		if Right(w.img, w.f) != right {
			t.Fatal(w, "is", right)
		}
		if right {
			tells(t, chance, w)
			cutOne(t, chance, w)
			putOne(t, chance, w)
		}
	}
	if times[true] < 4000 || times[false] < 4000 {
		t.Error("too few", times)
	}
}
