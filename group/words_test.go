package group

import (
	"math/rand"
	"slices"
	"testing"

	"selvedge/api"
)

// words are groups told by the chapter's words alone: all that was ever made, in lists.
type words struct {
	state   []api.GroupState // of each number; NoGroup: it is not there
	patches [][]int
	pairs   [][2]int // the first one comes behind the second one
}

func newWords() *words {
	return &words{state: []api.GroupState{api.NoGroup}, patches: [][]int{nil}}
}

func (w *words) there(n int) bool {
	return n > 0 && n < len(w.state) && w.state[n] != api.NoGroup
}

func (w *words) is(n int, l ...api.GroupState) bool {
	return slices.Contains(l, w.state[n])
}

// comesBehind: does n, by itself or through others? A row of pairs of so many groups is no longer than the pairs.
func (w *words) comesBehind(n, ahead, long int) bool {
	for _, p := range w.pairs {
		if p[0] == n && (p[1] == ahead || long > 0 && w.comesBehind(p[1], ahead, long-1)) {
			return true
		}
	}
	return false
}

func (w *words) ahead(n int) []int {
	var l []int
	for a := range w.state {
		if w.there(n) && w.there(a) && w.comesBehind(n, a, api.MaxGroups) {
			l = append(l, a)
		}
	}
	return l
}

func (w *words) engaged() []int {
	var l []int
	for n, state := range w.state {
		if state == api.Engaged {
			l = append(l, n)
		}
	}
	return l
}

func (w *words) behind() []int {
	var l []int
	for _, n := range w.engaged() {
		for _, a := range w.ahead(n) {
			l = append(l, w.patches[a]...)
		}
	}
	slices.Sort(l)
	return slices.Compact(l)
}

// calls are those that change something; the more often one stands here, the more often it is done.
var calls = []string{"Make", "Make", "Depend", "Depend", "Depend", "Depend", "Engage", "Disengage", "Release", "Abandon", "Took", "Took"}

// does does a call.
func (w *words) does(call string, n, m int) (int, api.Errno) {
	switch call {
	case "Make":
		many := 0
		for k := range w.state {
			if w.there(k) {
				many++
			}
		}
		if many == 8 {
			return 0, api.ErrFull
		}
		w.state, w.patches = append(w.state, api.Fresh), append(w.patches, nil)
		return len(w.state) - 1, api.OK
	case "Took":
		if n < 0 {
			return 0, api.ErrRange
		}
		for _, k := range w.engaged() {
			if !slices.Contains(w.patches[k], n) {
				w.patches[k] = append(w.patches[k], n)
				slices.Sort(w.patches[k])
			}
		}
		return 0, api.OK
	}
	if !w.there(n) || call == "Depend" && !w.there(m) {
		return 0, api.ErrNoent
	}
	return 0, w.doesTo(call, n, m)
}

// doesTo does a call of groups that are there.
func (w *words) doesTo(call string, n, m int) api.Errno {
	switch {
	case call == "Depend" && w.is(n, api.Fresh) && w.is(m, api.Released):
		w.pairs = append(w.pairs, [2]int{n, m})
	case call == "Engage" && w.is(n, api.Fresh, api.Resting):
		w.state[n] = api.Engaged
	case call == "Disengage" && w.is(n, api.Engaged):
		w.state[n] = api.Resting
	case call == "Release" && w.is(n, api.Fresh, api.Resting):
		w.state[n] = api.Released
	case call == "Abandon" && !w.is(n, api.Engaged):
		for k := range w.state {
			if k != n && w.there(k) && w.comesBehind(k, n, api.MaxGroups) {
				return api.ErrBusy
			}
		}
		w.state[n], w.patches[n] = api.NoGroup, nil
	default:
		return api.ErrState
	}
	return api.OK
}

// one is a group by chance, most often such as is in that state, or at least there.
func (w *words) one(chance *rand.Rand, state api.GroupState) int {
	var there, so []int
	for n := range w.state {
		if w.there(n) {
			there = append(there, n)
		}
		if w.there(n) && w.is(n, state) {
			so = append(so, n)
		}
	}
	for _, l := range [][]int{so, there} {
		if len(l) > 0 && chance.Intn(3) > 0 {
			return l[chance.Intn(len(l))]
		}
	}
	return len(w.state) + 2 - chance.Intn(20)
}

// asked does the same call of the groups themselves.
func asked(g *Groups, call string, n, m int) (int, api.Errno) {
	switch call {
	case "Make":
		return g.Make()
	case "Depend":
		return 0, g.Depend(n, m)
	case "Engage":
		return 0, g.Engage(n)
	case "Disengage":
		return 0, g.Disengage(n)
	case "Release":
		return 0, g.Release(n)
	case "Abandon":
		return 0, g.Abandon(n)
	}
	return 0, g.Took(n)
}

// same fails the test unless groups are as the words say.
func same(t *testing.T, g *Groups, w *words) {
	t.Helper()
	if !slices.Equal(g.Engaged(), w.engaged()) || !slices.Equal(g.Behind(), w.behind()) {
		t.Fatal("Engaged", g.Engaged(), w.engaged(), "Behind", g.Behind(), w.behind())
	}
	for n := range w.state {
		if g.State(n) != w.state[n] || !slices.Equal(g.Patches(n), w.patches[n]) || !slices.Equal(g.Ahead(n), w.ahead(n)) {
			t.Fatal(n, g.State(n), w.state[n], g.Patches(n), w.patches[n], g.Ahead(n), w.ahead(n))
		}
		if slices.Contains(g.Ahead(n), n) {
			t.Fatal("P13.3: a group comes behind itself", n)
		}
	}
}

// stays fails the test unless what groups that were Released have is as it was, as long as they are there: P13.4.
func stays(t *testing.T, was, is *Groups, last int) {
	t.Helper()
	for n := 1; n <= last; n++ {
		if was.State(n) != api.Released || is.State(n) == api.NoGroup {
			continue
		}
		if is.State(n) != api.Released || !slices.Equal(was.Patches(n), is.Patches(n)) || !slices.Equal(was.Ahead(n), is.Ahead(n)) {
			t.Fatal("what is released changes", n)
		}
	}
}

// P13.1 to P13.4: long rows of calls against the words.
func TestAgainstTheWords(t *testing.T) {
	chance := rand.New(rand.NewSource(13))
	errs := map[api.Errno]int{}
	longest := 0 // the most that a group came behind
	for range 300 {
		g, w := New(), newWords()
		for range 150 {
			call := calls[chance.Intn(len(calls))]
			n, m := w.one(chance, api.Fresh), w.one(chance, api.Released)
			was := g.Fork()
			got, e := asked(g, call, n, m)
			want, r := w.does(call, n, m)
			if got != want || e != r {
				t.Fatal(call, n, m, "answers", got, e, "not", want, r)
			}
			errs[e]++
			same(t, g, w)
			stays(t, was, g, len(w.state))
			longest = max(longest, len(g.Ahead(n)))
		}
	}
	for _, e := range []api.Errno{api.OK, api.ErrFull, api.ErrNoent, api.ErrState, api.ErrBusy, api.ErrRange} {
		if errs[e] < 100 {
			t.Error("too few of", e, errs)
		}
	}
	if longest < 4 {
		t.Error("too short", longest)
	}
}
