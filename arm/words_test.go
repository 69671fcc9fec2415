package arm

import (
	"math/rand"
	"slices"
	"testing"

	"selvedge/api"
)

// words is an arm told by the chapter's words alone: it forgets nothing, and reckons anew each time.
type words struct {
	policy api.Policy
	per    int
	went   []int // where it went to
	down   bool
	asked  []ask // as they were asked; not any more: taken back, or gone to
}

// ask is a block, and how often the arm had gone anywhere when it was asked for.
type ask struct {
	block, then int
	over        bool
}

func (w *words) at() int {
	if len(w.went) == 0 {
		return 0
	}
	return w.went[len(w.went)-1]
}

func (w *words) waiting() []int {
	var l []int
	for _, k := range w.asked {
		if !k.over {
			l = append(l, k.block)
		}
	}
	return l
}

func (w *words) age(block int) int {
	for _, k := range w.asked {
		if !k.over && k.block == block {
			return len(w.went) - k.then
		}
	}
	return -1
}

func (w *words) ask(block int) api.Errno {
	switch {
	case block < 0 || block >= 1024:
		return api.ErrRange
	case w.age(block) >= 0:
		return api.ErrExist
	case len(w.waiting()) == 24:
		return api.ErrFull
	}
	w.asked = append(w.asked, ask{block: block, then: len(w.went)})
	return api.OK
}

func (w *words) cancel(block int) api.Errno {
	for i, k := range w.asked {
		if !k.over && k.block == block {
			w.asked[i].over = true
			return api.OK
		}
	}
	return api.ErrNoent
}

func apart(a, b int) int {
	return max(a-b, b-a)
}

func (w *words) way(a, b int) int {
	return apart(a/w.per, b/w.per) + apart(a%w.per, b%w.per)
}

func (w *words) moved() int {
	far, at := 0, 0
	for _, block := range w.went {
		far += w.way(at, block)
		at = block
	}
	return far
}

// choice is the next block of several that rise.
func (w *words) choice(rising []int) int {
	at := w.at()
	up := slices.IndexFunc(rising, func(block int) bool { return block >= at })
	switch w.policy {
	case api.Near:
		least := rising[0]
		for _, block := range rising {
			if w.way(at, block) < w.way(at, least) {
				least = block
			}
		}
		return least
	case api.Scan:
		greatest := -1
		for i, block := range rising {
			if block <= at {
				greatest = i
			}
		}
		if w.down && greatest < 0 || !w.down && up < 0 {
			w.down = !w.down
		}
		if w.down {
			return rising[greatest]
		}
		return rising[up]
	case api.Cyclic:
		return rising[max(up, 0)]
	}
	return w.waiting()[0]
}

func (w *words) next() (int, bool) {
	l := w.waiting()
	if len(l) == 0 {
		return 0, false
	}
	var block int
	if i := slices.IndexFunc(l, func(block int) bool { return w.age(block) >= 12 }); i >= 0 {
		block = l[i]
		w.down = block < w.at()
	} else {
		rising := slices.Clone(l)
		slices.Sort(rising)
		block = w.choice(rising)
	}
	w.cancel(block)
	w.went = append(w.went, block)
	return block, true
}

// same fails the test unless the arm tells what the words do.
func (w *words) same(t *testing.T, a *Arm) {
	t.Helper()
	waits(t, a, w.waiting()...)
	is(t, "At", a.At(), w.at())
	is(t, "Moved", a.Moved(), w.moved())
	if a.Up() == w.down {
		t.Error("Up", a.Up())
	}
	for block := len(w.went)%50 - 1; block <= api.MaxPlaces; block += 50 {
		is(t, "Age", a.Age(block), w.age(block))
	}
	for _, block := range w.waiting() {
		is(t, "Age", a.Age(block), w.age(block))
	}
}

// step does the same to both, and fails the test where their answers differ.
func step(t *testing.T, chance *rand.Rand, a *Arm, w *words, room int) {
	t.Helper()
	block := chance.Intn(room+2) - 1
	if chance.Intn(40) == 0 {
		block = wrong[chance.Intn(len(wrong))]
	}
	switch chance.Intn(16) {
	case 0:
		does(t, "Cancel", a.Cancel(block), w.cancel(block))
	case 1:
		if chance.Intn(5) == 0 {
			w.policy = policies[chance.Intn(4)]
			does(t, "Set", a.Set(w.policy), api.OK)
		}
	case 2, 3, 4, 5, 6, 7:
		want, is := w.next()
		if got, ok := a.Next(); got != want || ok != is {
			t.Error("Next", got, ok, "not", want, is)
		}
	default:
		does(t, "Ask", a.Ask(block), w.ask(block))
	}
}

// P21.1, P21.2: long rows of calls against the words.
func TestAgainstTheWords(t *testing.T) {
	chance := rand.New(rand.NewSource(21))
	for round := range 240 {
		w := &words{policy: policies[round%4], per: 1 + chance.Intn(64)}
		a := New(w.policy, w.per)
		room := []int{8, 30, 200, api.MaxPlaces}[round/4%4]
		for range 150 {
			step(t, chance, a, w, room)
			if chance.Intn(10) == 0 {
				a = a.Fork()
			}
			w.same(t, a)
			if t.Failed() {
				t.Fatal("round", round)
			}
		}
	}
}

// P21.2: All against the words, from where the arm stands.
func TestAllAgainstTheWords(t *testing.T) {
	chance := rand.New(rand.NewSource(212))
	for round := range 2000 {
		w := &words{policy: policies[round%4], per: 1 + chance.Intn(64), went: []int{chance.Intn(api.MaxPlaces)}}
		from, before := w.at(), w.moved()
		l := chance.Perm([]int{30, api.MaxPlaces}[round/4%2])[:chance.Intn(api.MaxAsked+1)]
		for _, block := range l {
			w.ask(block)
		}
		var want []int
		for block, ok := w.next(); ok; block, ok = w.next() {
			want = append(want, block)
		}
		all, way, e := All(w.policy, w.per, from, l)
		if !slices.Equal(all, want) || way != w.moved()-before || e != api.OK {
			t.Fatal(w.policy, w.per, from, l, "answers", all, way, e, "not", want, w.moved()-before)
		}
	}
}

// P21.3: each is gone to once.
func TestEachOnce(t *testing.T) {
	chance := rand.New(rand.NewSource(213))
	for round := range 400 {
		l := chance.Perm(api.MaxPlaces)[:api.MaxAsked]
		all, _, e := All(policies[round%4], 1+round%64, chance.Intn(api.MaxPlaces), l)
		slices.Sort(all)
		slices.Sort(l)
		if !slices.Equal(all, l) || e != api.OK {
			t.Fatal(round, all, l, e)
		}
	}
}

// P21.4: who asks for what is near, over and over, can't let another one wait for ever.
func TestNoneWaitsForEver(t *testing.T) {
	chance := rand.New(rand.NewSource(214))
	for round := range 80 {
		a := New(policies[round%4], 1+chance.Intn(64))
		for range 400 {
			for len(a.Waiting()) < api.MaxAsked {
				a.Ask((a.At() + chance.Intn(40)) % api.MaxPlaces)
			}
			a.Next()
			for _, block := range a.Waiting() {
				if a.Age(block) > api.MaxWait+api.MaxAsked {
					t.Fatal(round, block, a.Age(block))
				}
			}
		}
	}
}

// P21.5: Near's first way is the least.
func TestNearIsNearest(t *testing.T) {
	chance := rand.New(rand.NewSource(215))
	for range 1000 {
		w := &words{per: 1 + chance.Intn(64)}
		from := chance.Intn(api.MaxPlaces)
		l := chance.Perm(api.MaxPlaces)[:1+chance.Intn(api.MaxAsked)]
		all, _, _ := All(api.Near, w.per, from, l)
		for _, block := range l {
			if first := w.way(from, all[0]); w.way(from, block) < first || w.way(from, block) == first && block < all[0] {
				t.Fatal(w.per, from, l, all[0])
			}
		}
	}
}

// The chapter's example.
func TestExample(t *testing.T) {
	for k, want := range [][]int{{9, 2, 7}, {7, 9, 2}, {7, 9, 2}, {7, 9, 2}} {
		if all, _, e := All(policies[k], 1, 5, []int{9, 2, 7}); !slices.Equal(all, want) || e != api.OK {
			t.Error(policies[k], all, e)
		}
	}
}
