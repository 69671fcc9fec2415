package hard

import (
	"math/rand"
	"slices"
	"testing"

	"selvedge/api"
	"selvedge/disk"
	"selvedge/engine"
)

// words is an engine told by the chapter's words alone: it forgets nothing, and asks anew each time.
type words struct {
	first    []disk.Sector // what there was at first
	patches  []api.Patch
	behind   [][]int // of each patch those that it comes behind
	lasts    []bool
	unit     []int     // of each patch; below 0: it was idle
	versions [][][]int // of each block the patches that were written since the last Flush
	bad      []bool
}

func wordsOf(first []disk.Sector) *words {
	return &words{first: first, versions: make([][][]int, len(first)), bad: make([]bool, len(first))}
}

// which are the patches of which that is so.
func (w *words) which(so func(n int) bool) []int {
	var l []int
	for n := range w.patches {
		if so(n) {
			l = append(l, n)
		}
	}
	return l
}

func (w *words) waiting() []int {
	return w.which(func(n int) bool { return !w.lasts[n] })
}

func (w *words) of(unit int) []int {
	return w.which(func(n int) bool { return !w.lasts[n] && w.unit[n] == unit })
}

// unitsOf are the units of some patches, rising.
func (w *words) unitsOf(l []int) []int {
	var all []int
	for _, n := range l {
		all = append(all, w.unit[n])
	}
	slices.Sort(all)
	return slices.Compact(all)
}

// comes: does patch a come behind patch b, over some others or at once?
func (w *words) comes(a, b int) bool {
	return slices.ContainsFunc(w.behind[a], func(n int) bool { return n == b || n > b && w.comes(n, b) })
}

func (w *words) wasWritten(n int) bool {
	return slices.ContainsFunc(w.versions[w.patches[n].Block], func(set []int) bool { return slices.Contains(set, n) })
}

// joins is the unit for the patch n, that comes behind what there is: an earlier one's, or its own.
func (w *words) joins(n int) int {
	on := w.which(func(m int) bool { return m < n && !w.lasts[m] && w.patches[m].Block == w.patches[n].Block })
	if len(on) == 0 {
		return n
	}
	greatest := slices.Max(w.unitsOf(on))
	of := w.which(func(m int) bool { return m < n && !w.lasts[m] && w.unit[m] == greatest })
	if slices.ContainsFunc(of, w.wasWritten) {
		return n
	}
	for _, b := range w.behind[n] {
		if !w.lasts[b] && !slices.ContainsFunc(of, func(m int) bool { return m == b || w.comes(m, b) }) {
			return n
		}
	}
	return greatest
}

func (w *words) add(l []api.Item) {
	first := len(w.patches)
	for k, item := range l {
		var behind []int
		for _, d := range item.Deps {
			if d < 0 {
				d = first - d - 1
			}
			behind = append(behind, d)
		}
		for _, n := range w.waiting() {
			if o := w.patches[n]; o.Block == item.Patch.Block && o.Off < item.Patch.Off+len(item.Patch.Data) && item.Patch.Off < o.Off+len(o.Data) {
				behind = append(behind, n)
			}
		}
		was := w.with(w.which(func(int) bool { return true }))
		w.patches, w.behind = append(w.patches, item.Patch), append(w.behind, behind)
		is := w.with(w.which(func(int) bool { return true }))
		waits := slices.ContainsFunc(behind, func(b int) bool { return !w.lasts[b] })
		w.lasts, w.unit = append(w.lasts, !waits && slices.Equal(was, is)), append(w.unit, -1)
		if n := first + k; !w.lasts[n] {
			w.unit[n] = w.joins(n)
		}
	}
}

// with are the blocks as they were at first, with a set of patches applied, in order.
func (w *words) with(set []int) []disk.Sector {
	l := slices.Clone(w.first)
	for _, n := range set {
		copy(l[w.patches[n].Block][w.patches[n].Off:], w.patches[n].Data)
	}
	return l
}

// lacks: does one of a set come behind one that neither lasts nor is in it?
func (w *words) lacks(some, set []int) bool {
	return slices.ContainsFunc(some, func(n int) bool {
		return slices.ContainsFunc(w.behind[n], func(b int) bool { return !w.lasts[b] && !slices.Contains(set, b) })
	})
}

// holds: is a set closed, with each unit that waits whole or not at all?
func (w *words) holds(set []int) bool {
	for _, n := range w.waiting() {
		for _, m := range w.of(w.unit[n]) {
			if slices.Contains(set, n) != slices.Contains(set, m) {
				return false
			}
		}
	}
	return !w.lacks(set, set)
}

func (w *words) on(i int) []int {
	return w.which(func(n int) bool { return !w.lasts[n] && w.patches[n].Block == i })
}

// ready is what is left when again and again a unit goes that can't be in the set.
func (w *words) ready(i int) []int {
	set := w.on(i)
	for {
		bad := slices.IndexFunc(w.unitsOf(set), func(u int) bool { return w.lacks(w.of(u), set) })
		if bad < 0 {
			return set
		}
		goes := w.unitsOf(set)[bad]
		set = slices.DeleteFunc(set, func(n int) bool { return w.unit[n] == goes })
	}
}

func (w *words) write(i int) (int, api.Errno) {
	set := w.ready(i)
	if last := len(w.versions[i]) - 1; len(set) == 0 || last >= 0 && slices.Equal(w.unitsOf(w.versions[i][last]), w.unitsOf(set)) {
		return 0, api.OK
	}
	if w.bad[i] {
		return 0, api.ErrIO
	}
	w.versions[i] = append(w.versions[i], set)
	return len(set), api.OK
}

func (w *words) flush() {
	for i, l := range w.versions {
		if len(l) > 0 {
			for _, n := range l[len(l)-1] {
				w.lasts[n] = true
			}
		}
		w.versions[i] = nil
	}
}

func (w *words) sync() api.Errno {
	for len(w.waiting()) > 0 {
		waited := len(w.waiting())
		for i := range w.first {
			w.write(i)
		}
		w.flush()
		if len(w.waiting()) == waited {
			return api.ErrIO
		}
	}
	return api.OK
}

// left are the numbers that a crash leaves.
func (w *words) left(pick []int) []int {
	set := w.which(func(n int) bool { return w.lasts[n] })
	k := 0
	for _, l := range w.versions {
		if len(l) == 0 {
			continue
		}
		if k < len(pick) && pick[k] >= 1 && pick[k] <= len(l) {
			set = append(set, l[pick[k]-1]...)
		}
		k++
	}
	slices.Sort(set)
	return set
}

// crashes fails the test unless a crash leaves a closed set, with each unit whole or not at all.
func (w *words) crashes(t *testing.T, e *Engine, pick []int) {
	t.Helper()
	set := w.left(pick)
	if !w.holds(set) {
		t.Error("does not hold", set)
	}
	d := e.Crash(pick)
	for i, want := range w.with(set) {
		if s, _ := d.Lasting(i); s != want {
			t.Error("Crash", pick, "leaves of", i, s, "not", want)
		}
	}
}

// same fails the test unless the engine tells what the words do.
func (w *words) same(t *testing.T, e *Engine) {
	t.Helper()
	var all [][]int
	for _, u := range w.unitsOf(w.waiting()) {
		all = append(all, w.of(u))
	}
	units(t, e, all...)
	if len(e.Units()) > len(e.Waiting()) {
		t.Error("more units than patches") // P22.5
	}
	idle := len(w.which(func(n int) bool { return w.unit[n] < 0 }))
	joined := len(w.which(func(n int) bool { return w.unit[n] >= 0 && w.unit[n] != n }))
	counts(t, e, len(w.patches), joined, idle)
	var dirty []int
	for i, b := range w.with(w.which(func(int) bool { return true })) {
		if len(w.on(i)) > 0 {
			dirty = append(dirty, i)
		}
		shows(t, e, i, string(b[:]))
	}
	numbered(t, "Dirty", e.Dirty(), dirty...)
}

// items are some, that may be added; often they change nothing.
func items(chance *rand.Rand, next, n, blocks, room int) []api.Item {
	l := make([]api.Item, n)
	for i := range l {
		block, off := chance.Intn(blocks), chance.Intn(room)
		data := make([]byte, 1+chance.Intn(min(4, room-off)))
		for at := range data {
			data[at] = byte(200 + block - chance.Intn(2)*(1+chance.Intn(9)))
		}
		l[i].Patch = api.Patch{Block: block, Off: off, Data: string(data)}
		for range chance.Intn(3) {
			// Those that were added last are the ones that wait.
			d := max(0, next+i-1-chance.Intn(8))
			if d < next {
				l[i].Deps = append(l[i].Deps, d)
			} else if d < next+i {
				l[i].Deps = append(l[i].Deps, next-d-1)
			}
		}
	}
	return l
}

// step does the same to both, and to an engine of chapter 7, that lets all last at once; and fails the test where their answers differ.
func step(t *testing.T, chance *rand.Rand, e *Engine, w *words, other *engine.Engine, room int) {
	t.Helper()
	i := chance.Intn(len(w.first))
	switch chance.Intn(14) {
	case 0, 1, 2, 3, 4:
		l := items(chance, e.Next(), chance.Intn(4), len(w.first), room)
		if len(l)+len(w.waiting()) > 30 {
			return
		}
		adds(t, e, len(w.patches), l...)
		w.add(l)
		if n, r := other.Add(l...); n != len(w.patches)-len(l) || r != api.OK {
			t.Error("engine's Add", n, r)
		}
		other.Sync()
	case 5, 6, 7, 8:
		n, r := w.write(i)
		writes(t, e, i, n, r)
	case 9:
		does(t, "Flush", e.Flush(), api.OK)
		w.flush()
	case 10:
		if chance.Intn(6) == 0 {
			does(t, "Sync", e.Sync(), w.sync())
		}
	case 11:
		w.bad[i] = !w.bad[i] && chance.Intn(4) == 0
		does(t, "Spoil", e.Spoil(i, w.bad[i]), api.OK)
	default:
		pick := make([]int, chance.Intn(len(w.first)+2))
		for k := range pick {
			pick[k] = chance.Intn(5) - 1
		}
		w.crashes(t, e, pick)
	}
}

// P22.1 to P22.5: long rows of calls against the words; Block against engine's.
func TestAgainstTheWords(t *testing.T) {
	chance := rand.New(rand.NewSource(22))
	for round := range 160 {
		blocks := 1 + round%4
		e, w, other := New(disk.Load(some(blocks))), wordsOf(some(blocks)), engine.New(disk.Load(some(blocks)))
		for range 100 {
			step(t, chance, e, w, other, 2+round%31)
			if chance.Intn(10) == 0 {
				e = e.Fork()
			}
			w.same(t, e)
			for i := range blocks {
				b, _ := other.Block(i)
				shows(t, e, i, string(b))
			}
			if t.Failed() {
				t.Fatal("round", round)
			}
		}
		for i := range blocks {
			e.Spoil(i, false)
		}
		does(t, "Sync without bad blocks", e.Sync(), api.OK)
		units(t, e)
	}
}

// grown are an engine and the words, with some patches of two blocks, of which some may last.
func grown(chance *rand.Rand, many, room int) (*Engine, *words) {
	e, w := New(disk.Load(some(2))), wordsOf(some(2))
	for e.Next() < many {
		l := items(chance, e.Next(), 1+chance.Intn(2), 2, room)
		e.Add(l...)
		w.add(l)
		for range chance.Intn(3) {
			i := chance.Intn(2)
			e.Write(i)
			w.write(i)
		}
		if chance.Intn(5) == 0 {
			e.Flush()
			w.flush()
		}
	}
	return e, w
}

// members are those of l whose bits are set.
func members(l []int, bits int) []int {
	var set []int
	for k, n := range l {
		if bits>>k&1 == 1 {
			set = append(set, n)
		}
	}
	return set
}

// P22.1: what Write writes are units that hold, and each set of units that holds is within it.
func TestReadyIsTheGreatest(t *testing.T) {
	chance := rand.New(rand.NewSource(221))
	for round := range 400 {
		e, w := grown(chance, 10, 6+round%20)
		for i := range 2 {
			f := e.Fork()
			f.Flush()
			v := *w
			v.lasts, v.versions = slices.Clone(w.lasts), slices.Clone(w.versions)
			v.flush()
			on := v.on(i)
			var greatest []int
			for bits := range 1 << len(on) {
				if set := members(on, bits); !v.lacks(set, set) && whole(&v, set) && len(set) > len(greatest) {
					greatest = set
				}
			}
			waited := f.Waiting()
			writes(t, f, i, len(greatest), api.OK)
			f.Flush()
			numbered(t, "Waiting", f.Waiting(), slices.DeleteFunc(waited, func(n int) bool { return slices.Contains(greatest, n) })...)
		}
	}
}

// whole: is each unit of a set in it with all its patches?
func whole(w *words, set []int) bool {
	many := 0
	for _, u := range w.unitsOf(set) {
		many += len(w.of(u))
	}
	return many == len(set)
}

// P22.4: whatever a crash leaves is what a closed set with all that last, and each unit whole or not at all, makes of what there was.
func TestCrashLeavesAClosedSet(t *testing.T) {
	chance := rand.New(rand.NewSource(224))
	for round := range 80 {
		e, w := grown(chance, 9, 4+round%12)
		last, waiting := w.which(func(n int) bool { return w.lasts[n] }), w.waiting()
		var may [][2]disk.Sector
		for bits := range 1 << len(waiting) {
			set := append(members(waiting, bits), last...)
			slices.Sort(set)
			if w.holds(set) {
				may = append(may, [2]disk.Sector(w.with(set)))
			}
		}
		for a := range 5 {
			for b := range 5 {
				d := e.Crash([]int{a, b})
				x, _ := d.Lasting(0)
				y, _ := d.Lasting(1)
				if !slices.Contains(may, [2]disk.Sector{x, y}) {
					t.Fatal(round, a, b, x, y)
				}
			}
		}
	}
}

// P22.1, P7.6: Sync of much that waits ends soon: each patch behind all ahead, on all blocks and on two, against the order in which they are written.
func TestSyncOfMuch(t *testing.T) {
	for _, blocks := range []int{2, 7, api.MaxBlocks} {
		e := New(disk.New(blocks))
		l := many(api.MaxPending, blocks)
		for k := range l {
			l[k].Patch.Block = blocks - 1 - k%blocks
			for d := range k {
				l[k].Deps = append(l[k].Deps, -1-d)
			}
		}
		adds(t, e, 0, l...)
		does(t, "Sync", e.Sync(), api.OK)
		units(t, e)
		counts(t, e, api.MaxPending, 0, 0)
	}
}

// P22.5, P22.1: all that waits is one unit of one block, however much it is.
func TestOneUnitOfMuch(t *testing.T) {
	e := New(disk.New(1))
	var want []int
	for k := range api.MaxPending {
		adds(t, e, k, p(0, k%api.BlockSize, string(rune('a'+k%26))))
		want = append(want, k)
	}
	units(t, e, want)
	counts(t, e, api.MaxPending, api.MaxPending-1, 0)
	writes(t, e, 0, api.MaxPending, api.OK)
	e.Flush()
	units(t, e)
}
