package stitch

import (
	"math/rand"
	"slices"
	"strings"
	"testing"

	"selvedge/api"
	"selvedge/cache"
	"selvedge/check"
	"selvedge/disk"
	"selvedge/engine"
	"selvedge/graph"
	"selvedge/group"
	"selvedge/image"
	"selvedge/patch"
	"selvedge/plan"
	"selvedge/tree"
)

// words is a system told by the chapter's words alone: an engine, groups and a cache side by side.
type words struct {
	e *engine.Engine
	g *group.Groups
	c *cache.Cache
}

func wordsOf(img [][]byte) *words {
	var l []disk.Sector
	for _, b := range img {
		l = append(l, disk.Sector(b))
	}
	return &words{engine.New(disk.Load(l)), group.New(), cache.New(24)}
}

func (w *words) image() [][]byte {
	img := make([][]byte, w.e.Size())
	for i := range img {
		img[i], _ = w.e.Block(i)
	}
	return img
}

func (w *words) do(o api.Op) api.Errno {
	l, e := plan.Plan(w.image(), o)
	if e != api.OK {
		return e
	}
	for _, item := range l {
		if _, e := w.c.Use(item.Patch.Block); e != api.OK {
			return api.ErrFull
		}
	}
	next := w.e.Next()
	for i, item := range l {
		for k, d := range item.Deps {
			l[i].Deps[k] = -d - 1
		}
		l[i].Deps = append(l[i].Deps, w.g.Behind()...)
	}
	if n, e := w.e.Add(l...); n != next || e != api.OK {
		return api.ErrFull
	}
	for i, item := range l {
		w.c.Dirty(item.Patch.Block, true)
		w.g.Took(next + i)
	}
	return api.OK
}

// clean lets those at hand be clean on which nothing waits.
func (w *words) clean() {
	for _, block := range w.c.List() {
		waits := false
		for _, other := range w.e.Dirty() {
			waits = waits || other == block
		}
		if !waits {
			w.c.Dirty(block, false)
		}
	}
}

func (w *words) write(block int) api.Errno {
	_, e := w.e.Write(block)
	w.clean()
	return e
}

func (w *words) flush() api.Errno {
	defer w.clean()
	return w.e.Flush()
}

func (w *words) sync() api.Errno {
	defer w.clean()
	return w.e.Sync()
}

func (w *words) syncGroup(n int) api.Errno {
	if w.g.State(n) == api.NoGroup {
		return api.ErrNoent
	}
	for {
		waiting, own := w.e.Waiting(), false
		for _, number := range w.g.Patches(n) {
			own = own || slices.Contains(waiting, number)
		}
		if !own {
			return api.OK
		}
		for block := range w.e.Size() {
			w.e.Write(block)
		}
		w.e.Flush()
		if slices.Equal(w.e.Waiting(), waiting) {
			return api.ErrIO
		}
	}
}

func (w *words) crash(pick []int) [][]byte {
	d := w.e.Crash(pick)
	img := make([][]byte, d.Size())
	for i := range img {
		b, _ := d.Lasting(i)
		img[i] = b[:]
	}
	return img
}

// tells is what a system would tell.
func (w *words) tells() told {
	is := told{img: w.image(), crash: w.crash(nil), picked: w.crash(slices.Repeat([]int{1}, 96)), waiting: len(w.e.Waiting()), hand: w.c.List()}
	for n := range 20 {
		is.states = append(is.states, w.g.State(n))
	}
	hand := w.c.Fork()
	for _, block := range w.c.List() {
		if hand.Drop(block) != api.OK {
			is.dirty = append(is.dirty, block)
		}
	}
	return is
}

// chanceOp is an operation, most often one that may be; of so many names.
func chanceOp(chance *rand.Rand, t []api.Node, names int) api.Op {
	path := func(fresh int) string {
		p := t[chance.Intn(len(t))].Path
		if chance.Intn(4) >= fresh && p != "/" || strings.Count(p, "/") == 4 {
			return p
		}
		return strings.TrimRight(p, "/") + "/" + string([]byte{byte('a' + chance.Intn(names))})
	}
	o := api.Op{Kind: api.OpKind(1 + chance.Intn(8))}
	if chance.Intn(3) == 0 {
		o.Kind = api.Write
	}
	switch o.Kind {
	case api.Create, api.Mkdir:
		o.Path = path(3)
	default:
		o.Path = path(1)
	}
	switch o.Kind {
	case api.Link, api.Rename:
		o.Other = path(3)
	case api.Write:
		n, _ := tree.Get(t, o.Path)
		o.Off = []int{0, len(n.Data), len(n.Data), chance.Intn(len(n.Data) + 1), chance.Intn(257)}[chance.Intn(5)]
		o.Data = strings.Repeat(string(rune('a'+chance.Intn(26))), 1+chance.Intn(64))
	}
	return o
}

// stepGroup does the same of groups to both, and fails the test where their answers differ.
func stepGroup(t *testing.T, chance *rand.Rand, s *System, w *words) {
	t.Helper()
	n, m := chance.Intn(12), chance.Intn(12)
	if engaged := w.g.Engaged(); len(engaged) > 0 && chance.Intn(2) == 0 {
		n = engaged[0]
	}
	var got, want api.Errno
	switch chance.Intn(8) {
	case 0:
		made, e := w.g.Make()
		number, r := s.Group()
		if got, want = r, e; number != made {
			t.Fatal("Group", number, "not", made)
		}
	case 1, 2:
		got, want = s.Depend(n, m), w.g.Depend(n, m)
	case 3:
		got, want = s.Engage(n), w.g.Engage(n)
	case 4:
		got, want = s.Disengage(n), w.g.Disengage(n)
	case 5:
		got, want = s.Release(n), w.g.Release(n)
	case 6:
		got, want = s.SyncGroup(n), w.syncGroup(n)
	case 7:
		got, want = s.Abandon(n), w.g.Abandon(n)
	}
	if got != want {
		t.Fatal("of groups", n, m, got, "not", want)
	}
}

// step does the same to both, and fails the test where their answers differ; the more kinds there are, the more often it is an operation.
func step(t *testing.T, chance *rand.Rand, s *System, w *words, names, kinds int) {
	t.Helper()
	block := chance.Intn(len(s.Image())+2) - 1
	what, got, want := "", api.OK, api.OK
	switch chance.Intn(kinds) {
	default:
		operates(t, s, w, chanceOp(chance, s.Tree(), names))
	case 0, 1, 2, 3:
		what, got, want = "Write", s.Write(block), w.write(block)
	case 4:
		what, got, want = "Flush", s.Flush(), w.flush()
	case 5:
		if chance.Intn(4) == 0 {
			what, got, want = "Sync", s.Sync(), w.sync()
		}
	case 6:
		bad := chance.Intn(8) == 0
		what, got, want = "Spoil", s.Spoil(block, bad), w.e.Spoil(block, bad)
	case 7, 8, 9, 10:
		stepGroup(t, chance, s, w)
	}
	if got != want {
		t.Fatal(what, block, got, "not", want)
	}
}

// operates does an operation of both, and fails the test unless that is what the tree does, or there is no room (P15.4).
func operates(t *testing.T, s *System, w *words, o api.Op) {
	t.Helper()
	was := s.Tree()
	behind, want := tree.Apply(was, o)
	e := s.Do(o)
	if r := w.do(o); e != r {
		t.Fatal(o, e, "not", r)
	}
	errs[e]++
	if e != want && (want != api.OK || e != api.ErrSpace && e != api.ErrFull) {
		t.Fatal(o, e, "and the tree says", want)
	}
	if e != api.OK {
		behind = was
	}
	if !tree.Same(s.Tree(), behind) {
		t.Fatal(o, e, s.Tree(), "not", behind)
	}
}

// errs are how often an operation had each error.
var errs [16]int

// leaves fails the test unless what a crash may leave is safe, and is put right with the same tree (P15.5).
func leaves(t *testing.T, chance *rand.Rand, s *System) {
	t.Helper()
	f := s.Fork()
	for range chance.Intn(24) {
		f.Write(chance.Intn(len(f.Image())))
		if chance.Intn(3) == 0 {
			f.Flush()
		}
	}
	pick := make([]int, chance.Intn(16))
	for k := range pick {
		pick[k] = chance.Intn(4)
	}
	img := f.Crash(pick)
	was, e := image.Tree(img)
	next, _, r := check.Check(img)
	is, _ := image.Tree(next)
	if e != api.OK || r != api.OK || !image.Clean(next) || !tree.Same(is, was) || Mount(img) == nil {
		t.Fatal("crash", e, r, was, is)
	}
}

// P15.1 to P15.6, E1 to E3, E5 to E7: long rows of calls against the words.
func TestAgainstTheWords(t *testing.T) {
	chance := rand.New(rand.NewSource(15))
	errs = [16]int{}
	for round := range 60 {
		s := New([]int{96, 16 + chance.Intn(8), 80 + chance.Intn(16)}[round%3])
		w := wordsOf(s.Image())
		names, kinds := 2+chance.Intn(8), []int{200, 32}[round%2]
		for range 200 {
			step(t, chance, s, w, names, kinds)
			if !tell(s).same(w.tells()) {
				t.Fatal("round", round, "tells another thing")
			}
			leaves(t, chance, s)
		}
		for block := range s.Image() {
			s.Spoil(block, false)
		}
		if e := s.Sync(); e != api.OK || s.Waiting() != 0 || !same(s.Crash(nil), s.Image()) {
			t.Fatal("round", round, "Sync", e)
		}
	}
	for _, e := range []api.Errno{api.OK, api.ErrSpace, api.ErrNoent, api.ErrExist, api.ErrNotdir, api.ErrIsdir, api.ErrNotempty, api.ErrFull} {
		if errs[e] < 20 {
			t.Error("too few of", e, errs)
		}
	}
}

// all are the patches of a system's operations, each with all that it comes behind: its plan's, its groups', and those ahead that it overlaps.
type all struct {
	first   [][]byte
	patches []api.Patch
	deps    [][]int
}

// add adds those of a plan, behind others.
func (a *all) add(l []api.Item, behind []int) {
	next := len(a.patches)
	for _, item := range l {
		deps := slices.Clone(behind)
		for _, d := range item.Deps {
			deps = append(deps, next+d)
		}
		for n, p := range a.patches {
			if patch.Overlap(p, item.Patch) {
				deps = append(deps, n)
			}
		}
		a.patches, a.deps = append(a.patches, item.Patch), append(a.deps, deps)
	}
}

// images are those behind each closed set that has all that were synced, as texts.
func (a *all) images(synced int) map[string]bool {
	l := map[string]bool{}
	for bits := range 1 << (len(a.patches) - synced) {
		var set []int
		for n := range a.patches {
			if n < synced || bits>>(n-synced)&1 == 1 {
				set = append(set, n)
			}
		}
		if !graph.Closed(a.deps, set) {
			continue
		}
		img := copied(a.first)
		for _, n := range set {
			copy(img[a.patches[n].Block][a.patches[n].Off:], a.patches[n].Data)
		}
		l[text(img)] = true
	}
	return l
}

// text is an image as one.
func text(img [][]byte) string {
	var all strings.Builder
	for _, b := range img {
		all.Write(b)
	}
	return all.String()
}

// E2: what a loss of power leaves is what there was with a closed set of patches, that has all that was synced.
func TestCrashLeavesAClosedSet(t *testing.T) {
	chance := rand.New(rand.NewSource(152))
	seen := 0
	for range 60 {
		s := New(20)
		l, synced := all{first: s.Image()}, 0
		g := group.New()
		for len(l.patches) < 60 {
			o := chanceOp(chance, s.Tree(), 4)
			items, e := plan.Plan(s.Image(), o)
			if e != api.OK || len(l.patches)+len(items)-synced > 11 {
				does(t, s.Sync())
				synced = len(l.patches)
				continue
			}
			done(t, s, o)
			l.add(items, g.Behind())
			for n := range items {
				g.Took(len(l.patches) - len(items) + n)
			}
			next(t, chance, s, g)
			may := l.images(synced)
			for range 8 {
				f := s.Fork()
				for range chance.Intn(12) {
					f.Write(chance.Intn(20))
					if chance.Intn(3) == 0 {
						f.Flush()
					}
				}
				img := f.Crash([]int{chance.Intn(3), chance.Intn(3), chance.Intn(3), chance.Intn(3)})
				if !may[text(img)] {
					t.Fatal("what is left is of no closed set", o)
				}
				seen++
			}
		}
	}
	if seen < 1000 {
		t.Error("too few", seen)
	}
}

// next goes on to another group, behind the one that was Engaged, now and then; of both alike.
func next(t *testing.T, chance *rand.Rand, s *System, g *group.Groups) {
	t.Helper()
	if chance.Intn(3) > 0 {
		return
	}
	engaged := g.Engaged()
	for _, n := range engaged {
		does(t, s.Disengage(n), s.Release(n), g.Disengage(n), g.Release(n))
	}
	n, e := g.Make()
	if m, r := s.Group(); m != n || r != e {
		t.Fatal("Group", m, r, "not", n, e)
	}
	if e != api.OK {
		return
	}
	for _, ahead := range engaged {
		does(t, s.Depend(n, ahead), g.Depend(n, ahead))
	}
	does(t, s.Engage(n), g.Engage(n))
}

// chain does a change of a file of its own in each of some groups, of which each comes behind the one ahead; now and then, between, one of another file in none. Every other file is made there too. The data that each group leaves.
func chain(t *testing.T, chance *rand.Rand, s *System, many int) []string {
	t.Helper()
	var ahead []int
	var data []string
	for i := range many {
		text := strings.Repeat(string(rune('A'+i)), 1+chance.Intn(64))
		l := []api.Op{write(name(i), text)}
		if i%2 == 1 {
			l = []api.Op{create(name(i)), l[0]}
		}
		ahead = []int{grouped(t, s, ahead, l...)}
		data = append(data, text)
		if chance.Intn(2) == 0 {
			done(t, s, write("/z", text))
		}
	}
	return data
}

func name(i int) string { return "/" + string(rune('a'+i)) }

// P15.7, E4: if something that was done in a group is there, all is there that was done in groups that it comes behind.
func TestGroupsInOrder(t *testing.T) {
	chance := rand.New(rand.NewSource(157))
	seen := map[int]int{}
	for range 60 {
		s := made(t, 32)
		done(t, s, create("/a"), create("/c"), create("/e"), create("/z"))
		does(t, s.Sync())
		data := chain(t, chance, s, 6)
		for s.Waiting() > 0 {
			if s.Write(1 + chance.Intn(31)); chance.Intn(4) == 0 {
				does(t, s.Flush())
			}
			img := s.Crash([]int{chance.Intn(2), chance.Intn(2), chance.Intn(2), chance.Intn(2)})
			whole := 0
			for whole < len(data) && has(img, name(whole)) == data[whole] {
				whole++
			}
			for i := whole + 1; i < len(data); i++ {
				if _, e := image.Find(img, name(i)); has(img, name(i)) != "" || i%2 == 1 && e == api.OK {
					t.Fatal("of group", i+1, "something is there, and of", whole+1, "not all")
				}
			}
			seen[whole]++
		}
	}
	for whole := range 7 {
		if seen[whole] < 100 {
			t.Error("too few", seen)
		}
	}
}

// has is what a file of an image has; of none it is empty.
func has(img [][]byte, path string) string {
	ino, _ := image.Find(img, path)
	data, _ := image.Data(img, ino)
	return data
}
