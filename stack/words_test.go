package stack

import (
	"bytes"
	"math/rand"
	"slices"
	"testing"

	"selvedge/api"
)

// words are a stack told by the chapter's words alone: all that was ever pushed, byte by byte.
type words struct {
	base  []byte
	all   []api.Patch // all that were pushed
	there []bool      // which of them are on
}

func newWords(b []byte) *words {
	return &words{base: slices.Clone(b)}
}

func (w *words) is(n int) bool {
	return n >= 0 && n < len(w.all) && w.there[n]
}

// on are those that are on, and of which the words say yes.
func (w *words) on(yes func(n int) bool) []int {
	var l []int
	for n := range w.all {
		if w.there[n] && yes(n) {
			l = append(l, n)
		}
	}
	return l
}

func (w *words) waiting() []int {
	return w.on(func(int) bool { return true })
}

// writes: does n write the i-th byte?
func (w *words) writes(n, i int) bool {
	return i >= w.all[n].Off && i < w.all[n].Off+len(w.all[n].Data)
}

// bytes are the bytes with just these.
func (w *words) bytes(some []int) []byte {
	b := slices.Clone(w.base)
	for i := range b {
		for n := range w.all {
			if slices.Contains(some, n) && w.writes(n, i) {
				b[i] = w.all[n].Data[i-w.all[n].Off]
			}
		}
	}
	return b
}

func (w *words) needs(n int) []int {
	if !w.is(n) {
		return nil
	}
	return w.on(func(m int) bool {
		for i := range api.BlockSize {
			if m < n && w.writes(m, i) && w.writes(n, i) {
				return true
			}
		}
		return false
	})
}

func (w *words) under(n int) (string, api.Errno) {
	if !w.is(n) {
		return "", api.ErrNoent
	}
	b := w.bytes(w.on(func(m int) bool { return m < n }))
	return string(b[w.all[n].Off : w.all[n].Off+len(w.all[n].Data)]), api.OK
}

// asks is the error of Roll and Settle.
func (w *words) asks(some []int) api.Errno {
	for _, n := range some {
		if !w.is(n) {
			return api.ErrRange
		}
	}
	for _, n := range some {
		for _, m := range w.needs(n) {
			if !slices.Contains(some, m) {
				return api.ErrBusy
			}
		}
	}
	return api.OK
}

func (w *words) settle(some []int) api.Errno {
	if e := w.asks(some); e != api.OK {
		return e
	}
	w.base = w.bytes(some)
	for _, n := range some {
		w.there[n] = false
	}
	return api.OK
}

func (w *words) squash(into, n int) api.Errno {
	if !w.is(into) || !w.is(n) {
		return api.ErrNoent
	}
	if into >= n {
		return api.ErrRange
	}
	for m := into + 1; m < n; m++ {
		if w.there[m] && (slices.Contains(w.needs(m), into) || slices.Contains(w.needs(n), m)) {
			return api.ErrBusy
		}
	}
	first, last := -1, -1
	data := ""
	for i := range api.BlockSize {
		if !w.writes(into, i) && !w.writes(n, i) {
			continue
		}
		if last >= 0 && last != i-1 {
			return api.ErrForm
		}
		if first < 0 {
			first = i
		}
		last = i
		from := into
		if w.writes(n, i) {
			from = n
		}
		data += w.all[from].Data[i-w.all[from].Off : i-w.all[from].Off+1]
	}
	w.all[into] = api.Patch{Block: w.all[into].Block, Off: first, Data: data}
	w.there[n] = false
	return api.OK
}

// same fails the test unless a stack is as the words say.
func same(t *testing.T, s *Stack, w *words) {
	t.Helper()
	if !bytes.Equal(s.Base(), w.base) || !slices.Equal(s.Waiting(), w.waiting()) || !bytes.Equal(s.Bytes(), w.bytes(w.waiting())) {
		t.Fatal(s.Base(), w.base, s.Waiting(), w.waiting(), s.Bytes())
	}
	for n := -1; n <= len(w.all); n++ {
		p, ok := s.Get(n)
		if ok != w.is(n) || ok && p != w.all[n] || !ok && p != (api.Patch{}) {
			t.Fatal(n, p, ok)
		}
		b, e := s.Under(n)
		if want, r := w.under(n); b != want || e != r {
			t.Fatal("Under", n, b, e, "not", want, r)
		}
		if !slices.Equal(s.Needs(n), w.needs(n)) {
			t.Fatal("Needs", n, s.Needs(n), w.needs(n))
		}
	}
}

// follows fails the test unless what follows holds: P17.4, P17.5, P17.7.
func follows(t *testing.T, s *Stack, p api.Patch) {
	t.Helper()
	if b, e := s.Roll(s.Waiting()); e != api.OK || !bytes.Equal(b, s.Bytes()) {
		t.Fatal("P17.5", e)
	}
	if b, e := s.Roll(nil); e != api.OK || !bytes.Equal(b, s.Base()) {
		t.Fatal("P17.5", e)
	}
	f := s.Fork()
	if n, e := f.Push(p); e == api.OK {
		was, _ := f.Under(n)
		b := f.Bytes()
		copy(b[p.Off:], was)
		if !bytes.Equal(b, s.Bytes()) {
			t.Fatal("P17.7")
		}
		if q, e := f.Pop(); q != p || e != api.OK || !bytes.Equal(f.Bytes(), s.Bytes()) || !slices.Equal(f.Waiting(), s.Waiting()) {
			t.Fatal("P17.4", q, e)
		}
	}
}

// one is a patch by chance.
func one(chance *rand.Rand) api.Patch {
	off := chance.Intn(api.BlockSize)
	long := 1 + chance.Intn(min(6, api.BlockSize-off))
	data := make([]byte, long)
	for i := range data {
		data[i] = byte('a' + chance.Intn(26))
	}
	return api.Patch{Block: chance.Intn(3), Off: off, Data: string(data)}
}

// some are numbers by chance: most often of such as are on, and then with what they need, or all but one of that.
func (w *words) some(chance *rand.Rand) []int {
	var l []int
	for range chance.Intn(4) {
		l = append(l, chance.Intn(len(w.all)+1))
	}
	if chance.Intn(4) == 0 {
		return l
	}
	l = slices.DeleteFunc(l, func(n int) bool { return !w.is(n) })
	for at := 0; at < len(l); at++ {
		for _, m := range w.needs(l[at]) {
			if !slices.Contains(l, m) {
				l = append(l, m)
			}
		}
	}
	if len(l) > 0 && chance.Intn(3) == 0 {
		at := chance.Intn(len(l))
		l = slices.Delete(l, at, at+1)
	}
	chance.Shuffle(len(l), func(i, j int) { l[i], l[j] = l[j], l[i] })
	return l
}

// step does something by chance with both; what was done, and its error.
func step(t *testing.T, chance *rand.Rand, s *Stack, w *words) (string, api.Errno) {
	t.Helper()
	kept := s.Bytes()
	switch k := chance.Intn(10); {
	case k < 4 || len(w.all) == 0:
		p := one(chance)
		n, e := s.Push(p)
		if n != len(w.all) || e != api.OK {
			t.Fatal("Push", n, e)
		}
		w.all, w.there = append(w.all, p), append(w.there, true)
		return "Push", e
	case k < 5:
		p, e := s.Pop()
		l := w.waiting()
		if len(l) == 0 {
			if e != api.ErrNoent || p != (api.Patch{}) {
				t.Fatal("Pop", p, e)
			}
			return "Pop", e
		}
		top := l[len(l)-1]
		if p != w.all[top] || e != api.OK {
			t.Fatal("Pop", p, e)
		}
		w.there[top] = false
		return "Pop", e
	case k < 7:
		into, n := chance.Intn(len(w.all)+1), chance.Intn(len(w.all)+1)
		want := w.squash(into, n)
		e := s.Squash(into, n)
		if e != want || !bytes.Equal(kept, s.Bytes()) {
			t.Fatal("Squash", into, n, e, want)
		}
		return "Squash", e
	case k < 9:
		l := w.some(chance)
		want := w.asks(l)
		b, e := s.Roll(l)
		if e != want || e == api.OK && !bytes.Equal(b, w.bytes(l)) || e != api.OK && b != nil {
			t.Fatal("Roll", l, b, e, want)
		}
		return "Roll", e
	}
	l := w.some(chance)
	want := w.settle(l)
	e := s.Settle(l)
	if e != want || !bytes.Equal(kept, s.Bytes()) {
		t.Fatal("Settle", l, e, want)
	}
	return "Settle", e
}

// P17.1 to P17.7: long rows of calls against the words.
func TestAgainstTheWords(t *testing.T) {
	chance := rand.New(rand.NewSource(17))
	times := map[string]map[api.Errno]int{}
	for range 300 {
		b := make([]byte, api.BlockSize)
		chance.Read(b)
		s, w := New(b), newWords(b)
		for range 60 {
			what, e := step(t, chance, s, w)
			if times[what] == nil {
				times[what] = map[api.Errno]int{}
			}
			times[what][e]++
			same(t, s, w)
			follows(t, s, one(chance))
		}
	}
	for what, errs := range map[string][]api.Errno{
		"Push": {api.OK}, "Pop": {api.OK, api.ErrNoent},
		"Roll": {api.OK, api.ErrRange, api.ErrBusy}, "Settle": {api.OK, api.ErrRange, api.ErrBusy},
		"Squash": {api.OK, api.ErrNoent, api.ErrRange, api.ErrBusy, api.ErrForm},
	} {
		for _, e := range errs {
			if times[what][e] < 50 {
				t.Error("too few of", what, e, times)
			}
		}
	}
}
