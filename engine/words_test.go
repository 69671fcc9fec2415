package engine

import (
	"math/rand"
	"slices"
	"testing"

	"selvedge/api"
	"selvedge/disk"
)

// words is an engine told by the chapter's words alone: it forgets nothing, and asks anew each time.
type words struct {
	first    []disk.Sector // what there was at first
	patches  []api.Patch
	behind   [][]int // of each patch those that it comes behind
	lasts    []bool
	versions [][][]int // of each block the sets that were written since the last Flush
	bad      []bool
}

func wordsOf(first []disk.Sector) *words {
	return &words{first: first, versions: make([][][]int, len(first)), bad: make([]bool, len(first))}
}

func (w *words) waiting() []int {
	var l []int
	for n, lasts := range w.lasts {
		if !lasts {
			l = append(l, n)
		}
	}
	return l
}

func (w *words) add(l []api.Item) {
	first := len(w.patches)
	for _, item := range l {
		var behind []int
		for _, d := range item.Deps {
			if d < 0 {
				d = first - d - 1
			}
			behind = append(behind, d)
		}
		for _, n := range w.waiting() {
			if o := w.patches[n]; o.Block == item.Patch.Block && o.Off < item.Patch.Off+len(item.Patch.Data) && item.Patch.Off < o.Off+len(o.Data) {
				behind = append(behind, n)
			}
		}
		w.patches, w.behind, w.lasts = append(w.patches, item.Patch), append(w.behind, behind), append(w.lasts, false)
	}
}

// holds: does each of a set come behind patches alone that last or are in it?
func (w *words) holds(set []int) bool {
	for _, n := range set {
		for _, b := range w.behind[n] {
			if !w.lasts[b] && !slices.Contains(set, b) {
				return false
			}
		}
	}
	return true
}

// on are those that wait on a block.
func (w *words) on(i int) []int {
	return slices.DeleteFunc(w.waiting(), func(n int) bool { return w.patches[n].Block != i })
}

// ready is what is left when again and again one goes that can't be in the set.
func (w *words) ready(i int) []int {
	set := w.on(i)
	for {
		at := slices.IndexFunc(set, func(n int) bool {
			return slices.ContainsFunc(w.behind[n], func(b int) bool { return !w.lasts[b] && !slices.Contains(set, b) })
		})
		if at < 0 {
			return set
		}
		set = slices.Delete(set, at, at+1)
	}
}

func (w *words) write(i int) (int, api.Errno) {
	set := w.ready(i)
	if last := len(w.versions[i]) - 1; len(set) == 0 || last >= 0 && slices.Equal(w.versions[i][last], set) {
		return 0, api.OK
	}
	if w.bad[i] {
		return 0, api.ErrIO
	}
	w.versions[i] = append(w.versions[i], set)
	return len(set), api.OK
}

func (w *words) flush() {
	for i, l := range w.versions {
		if len(l) > 0 {
			for _, n := range l[len(l)-1] {
				w.lasts[n] = true
			}
		}
		w.versions[i] = nil
	}
}

func (w *words) sync() api.Errno {
	for len(w.waiting()) > 0 {
		waited := len(w.waiting())
		for i := range w.first {
			w.write(i)
		}
		w.flush()
		if len(w.waiting()) == waited {
			return api.ErrIO
		}
	}
	return api.OK
}

// left are the numbers that a crash leaves.
func (w *words) left(pick []int) []int {
	var set []int
	for n, lasts := range w.lasts {
		if lasts {
			set = append(set, n)
		}
	}
	k := 0
	for _, l := range w.versions {
		if len(l) == 0 {
			continue
		}
		if k < len(pick) && pick[k] >= 1 && pick[k] <= len(l) {
			set = append(set, l[pick[k]-1]...)
		}
		k++
	}
	slices.Sort(set)
	return set
}

// with are the blocks as they were at first, with a set of patches applied, in order.
func (w *words) with(set []int) []disk.Sector {
	l := slices.Clone(w.first)
	for _, n := range set {
		copy(l[w.patches[n].Block][w.patches[n].Off:], w.patches[n].Data)
	}
	return l
}

// same fails the test unless the engine tells what the words do.
func (w *words) same(t *testing.T, e *Engine) {
	t.Helper()
	numbered(t, "Waiting", e.Waiting(), w.waiting()...)
	var dirty, all []int
	for n := range w.patches {
		all = append(all, n)
	}
	behindAll := w.with(all)
	for i := range w.first {
		if len(w.on(i)) > 0 {
			dirty = append(dirty, i)
		}
		numbered(t, "Ready", e.Ready(i), w.ready(i)...)
		shows(t, e, i, string(behindAll[i][:])) // P7.5: whatever was written
	}
	numbered(t, "Dirty", e.Dirty(), dirty...)
	if e.Next() != len(w.patches) || e.Size() != len(w.first) {
		t.Error(e.Next(), e.Size())
	}
}

// crashes fails the test unless a crash leaves a closed set.
func (w *words) crashes(t *testing.T, e *Engine, pick []int) {
	t.Helper()
	set := w.left(pick)
	if !w.holds(set) {
		t.Error("not closed", set)
	}
	d := e.Crash(pick)
	for i, want := range w.with(set) {
		if s, _ := d.Lasting(i); s != want {
			t.Error("Crash", pick, "leaves of", i, s, "not", want)
		}
	}
}

// items are some, that may be added.
func items(chance *rand.Rand, next, n, blocks, room int) []api.Item {
	l := make([]api.Item, n)
	for i := range l {
		off := chance.Intn(room)
		data := make([]byte, 1+chance.Intn(room-off))
		for at := range data {
			data[at] = byte(1 + chance.Intn(190))
		}
		l[i].Patch = api.Patch{Block: chance.Intn(blocks), Off: off, Data: string(data)}
		for range chance.Intn(3) {
			d := chance.Intn(next + i + 1)
			if d < next {
				l[i].Deps = append(l[i].Deps, d)
			} else if d < next+i {
				l[i].Deps = append(l[i].Deps, next-d-1)
			}
		}
	}
	return l
}

// step does the same to both, and fails the test where their answers differ.
func step(t *testing.T, chance *rand.Rand, e *Engine, w *words, room int) {
	t.Helper()
	i := chance.Intn(len(w.first))
	switch chance.Intn(12) {
	case 0, 1, 2, 3:
		l := items(chance, e.Next(), chance.Intn(4), len(w.first), room)
		if len(l)+len(w.waiting()) > 40 {
			return
		}
		adds(t, e, len(w.patches), l...)
		w.add(l)
	case 4, 5, 6, 7:
		n, r := w.write(i)
		writes(t, e, i, n, r)
	case 8:
		does(t, "Flush", e.Flush(), api.OK)
		w.flush()
	case 9:
		if chance.Intn(6) == 0 {
			does(t, "Sync", e.Sync(), w.sync())
		}
	case 10:
		w.bad[i] = !w.bad[i] && chance.Intn(4) == 0
		does(t, "Spoil", e.Spoil(i, w.bad[i]), api.OK)
	default:
		pick := make([]int, chance.Intn(len(w.first)+2))
		for k := range pick {
			pick[k] = chance.Intn(5) - 1
		}
		w.crashes(t, e, pick)
	}
}

// P7.1 to P7.6: long rows of calls against the words.
func TestAgainstTheWords(t *testing.T) {
	chance := rand.New(rand.NewSource(7))
	for round := range 120 {
		blocks := 1 + round%5
		e, w := New(disk.Load(some(blocks))), wordsOf(some(blocks))
		for range 120 {
			step(t, chance, e, w, 2+round%31)
			w.same(t, e)
			if t.Failed() {
				t.Fatal("round", round)
			}
		}
		for i := range blocks {
			e.Spoil(i, false)
		}
		does(t, "Sync without bad blocks", e.Sync(), api.OK)
		numbered(t, "Waiting", e.Waiting())
	}
}

// P7.2: Ready holds, and each set that holds is within it.
func TestReadyIsTheGreatest(t *testing.T) {
	chance := rand.New(rand.NewSource(72))
	for round := range 400 {
		e, w := New(disk.New(2)), wordsOf(make([]disk.Sector, 2))
		for e.Next() < 9 {
			l := items(chance, e.Next(), 3, 2, 6+round%20)
			e.Add(l...)
			w.add(l)
			if chance.Intn(3) == 0 {
				i := chance.Intn(2)
				e.Write(i)
				e.Flush()
				w.write(i)
				w.flush()
			}
		}
		for i := range 2 {
			on, ready := w.on(i), e.Ready(i)
			if !w.holds(ready) {
				t.Error("does not hold", ready)
			}
			for bits := range 1 << len(on) {
				set := members(on, bits)
				if w.holds(set) && slices.ContainsFunc(set, func(n int) bool { return !slices.Contains(ready, n) }) {
					t.Error(set, "holds, and is not within", ready)
				}
			}
		}
	}
}

// members are those of l whose bits are set.
func members(l []int, bits int) []int {
	var set []int
	for k, n := range l {
		if bits>>k&1 == 1 {
			set = append(set, n)
		}
	}
	return set
}

// P7.4: whatever a crash leaves is what a closed set with all that last makes of what there was.
func TestCrashLeavesAClosedSet(t *testing.T) {
	chance := rand.New(rand.NewSource(74))
	for round := range 60 {
		e, w := New(disk.Load(some(2))), wordsOf(some(2))
		for e.Next() < 7 {
			l := items(chance, e.Next(), 1, 2, 8)
			e.Add(l...)
			w.add(l)
			for range 1 + round%3 {
				i := chance.Intn(2)
				e.Write(i)
				w.write(i)
			}
			if chance.Intn(4) == 0 {
				e.Flush()
				w.flush()
			}
		}
		may := closedImages(w)
		for a := range 6 {
			for b := range 6 {
				d := e.Crash([]int{a, b})
				x, _ := d.Lasting(0)
				y, _ := d.Lasting(1)
				if !slices.Contains(may, [2]disk.Sector{x, y}) {
					t.Error(round, a, b, x, y)
				}
			}
		}
	}
}

// closedImages are the two blocks behind each closed set that has all that last.
func closedImages(w *words) [][2]disk.Sector {
	var last, l []int
	for n, lasts := range w.lasts {
		if lasts {
			last = append(last, n)
		} else {
			l = append(l, n)
		}
	}
	var may [][2]disk.Sector
	for bits := range 1 << len(l) {
		if set := members(l, bits); w.holds(set) {
			set = append(set, last...)
			slices.Sort(set)
			may = append(may, [2]disk.Sector(w.with(set)))
		}
	}
	return may
}

// P7.6, and that Sync of much that waits ends soon: each patch behind the one ahead, on all blocks, against the order in which they are written.
func TestSyncOfMuch(t *testing.T) {
	e := New(disk.New(api.MaxBlocks))
	l := many(api.MaxPending, api.MaxBlocks)
	for k := range l {
		l[k].Patch.Block = api.MaxBlocks - 1 - k%api.MaxBlocks
		for d := range k {
			l[k].Deps = append(l[k].Deps, -1-d)
		}
	}
	adds(t, e, 0, l...)
	does(t, "Sync", e.Sync(), api.OK)
	numbered(t, "Waiting", e.Waiting())
}
