package trace

import (
	"math/rand"
	"regexp"
	"slices"
	"strconv"
	"strings"
	"testing"

	"selvedge/api"
	"selvedge/delta"
	"selvedge/image"
	"selvedge/stitch"
	"selvedge/tree"
)

// isRight is Right by the words.
func isRight(e api.Event) bool {
	none := e.Op == api.Op{}
	small := func(n int) bool { return 0 <= n && n <= 99 }
	return map[api.EventKind]bool{
		api.Did:   tree.RightOp(e.Op) && e.N == 0 && e.M == 0,
		api.Wrote: none && small(e.N) && e.M == 0, api.EngagedIn: none && small(e.N) && e.M == 0, api.DisengagedOf: none && small(e.N) && e.M == 0, api.ReleasedOf: none && small(e.N) && e.M == 0,
		api.Depended: none && small(e.N) && small(e.M),
		api.Flushed:  none && e.N == 0 && e.M == 0, api.Synced: none && e.N == 0 && e.M == 0, api.Crashed: none && e.N == 0 && e.M == 0, api.Grouped: none && e.N == 0 && e.M == 0,
	}[e.Kind]
}

// lineOf is the line of an event by the words.
func lineOf(e api.Event) string {
	n, m := strconv.Itoa(e.N), strconv.Itoa(e.M)
	operation, _ := delta.Print([]api.Op{e.Op})
	return map[api.EventKind]string{
		api.Did: "do " + strings.TrimRight(operation, "\n"), api.Wrote: "write " + n, api.Flushed: "flush", api.Synced: "sync", api.Crashed: "crash", api.Grouped: "group",
		api.Depended: "depend " + n + " " + m, api.EngagedIn: "engage " + n, api.DisengagedOf: "rest " + n, api.ReleasedOf: "release " + n,
	}[e.Kind]
}

// isLine tells whether a line is an event's.
func isLine(line string) bool {
	if text, ok := strings.CutPrefix(line, "do "); ok {
		l, e := delta.Parse(text + "\n")
		return e == api.OK && len(l) == 1
	}
	return regexp.MustCompile(`^(flush|sync|crash|group|(write|engage|rest|release) (\d|[1-9]\d)|depend (\d|[1-9]\d) (\d|[1-9]\d))$`).MatchString(line)
}

// apply is Apply by the words.
func apply(s *stitch.System, e api.Event) (*stitch.System, api.Errno) {
	if s == nil {
		return nil, api.ErrNil
	}
	if !isRight(e) {
		return s, api.ErrForm
	}
	if e.Kind == api.Crashed {
		return stitch.Mount(s.Crash([]int{})), api.OK
	}
	return s, map[api.EventKind]func() api.Errno{
		api.Did: func() api.Errno { return s.Do(e.Op) }, api.Wrote: func() api.Errno { return s.Write(e.N) }, api.Flushed: s.Flush, api.Synced: s.Sync,
		api.Grouped:  func() api.Errno { _, r := s.Group(); return r },
		api.Depended: func() api.Errno { return s.Depend(e.N, e.M) }, api.EngagedIn: func() api.Errno { return s.Engage(e.N) }, api.DisengagedOf: func() api.Errno { return s.Disengage(e.N) }, api.ReleasedOf: func() api.Errno { return s.Release(e.N) },
	}[e.Kind]()
}

// play is Play by the words, and how many paths would be lost behind each event.
func play(blocks int, l []api.Event) (*stitch.System, []api.Errno, []int) {
	s := stitch.New(blocks)
	var errs []api.Errno
	var lost []int
	for _, event := range l {
		var e api.Errno
		s, e = apply(s, event)
		errs = append(errs, e)
		left, _ := image.Tree(s.Crash(nil))
		many := 0
		for _, n := range s.Tree() {
			if was, ok := tree.Get(left, n.Path); !ok || was.Dir != n.Dir || was.Data != n.Data || was.First != n.First {
				many++
			}
		}
		lost = append(lost, many)
	}
	return s, errs, lost
}

// shrunk is Shrink by the words: all is played again each time.
func shrunk(blocks int, l []api.Event, path string) []api.Event {
	there := func(l []api.Event) bool {
		s, _, _ := play(blocks, l)
		_, ok := tree.Get(s.Tree(), path)
		return ok
	}
	want := there(l)
	left := slices.Clone(l)
	for i := len(l) - 1; i >= 0; i-- {
		without := slices.Delete(slices.Clone(left), i, i+1)
		if there(without) == want {
			left = without
		}
	}
	return left
}

// chancePath is a path; most often one of few.
func chancePath(chance *rand.Rand) string {
	p := "/" + string(rune('a'+chance.Intn(4)))
	for chance.Intn(4) == 0 && strings.Count(p, "/") < 4 {
		p += "/" + string(rune('a'+chance.Intn(3)))
	}
	return p
}

// chanceOp is an operation; most often it is right, and can be done in a tree.
func chanceOp(chance *rand.Rand, t []api.Node) api.Op {
	o := api.Op{Kind: api.OpKind(1 + chance.Intn(8)), Path: chancePath(chance)}
	if len(t) > 1 && chance.Intn(2) == 0 {
		o.Path = t[1+chance.Intn(len(t)-1)].Path
	}
	switch chance.Intn(4) {
	case 0, 1:
		o.Kind = []api.OpKind{api.Create, api.Create, api.Mkdir, api.Mkdir, api.Rmdir}[chance.Intn(5)]
	case 2:
		o.Kind = api.Write
	}
	switch o.Kind {
	case api.Link, api.Rename:
		o.Other = chancePath(chance)
	case api.Write:
		n, _ := tree.Get(t, o.Path)
		o.Off = []int{0, len(n.Data), len(n.Data), len(n.Data), 5, 257}[chance.Intn(6)]
		o.Data = strings.Repeat(string(rune(' '+chance.Intn(100))), chance.Intn(60))
	}
	return o
}

// chanceEvent is an event; most often it is right.
func chanceEvent(chance *rand.Rand, t []api.Node) api.Event {
	number := func() int {
		return []int{chance.Intn(6), 11 + chance.Intn(6), chance.Intn(20), chance.Intn(102) - 1}[chance.Intn(4)]
	}
	switch chance.Intn(16) {
	case 0, 1, 2:
		return of(api.Wrote, number())
	case 3:
		return of([]api.EventKind{api.Flushed, api.Flushed, api.Synced, api.Crashed}[chance.Intn(4)])
	case 4:
		return group
	case 5:
		return of(api.Depended, chance.Intn(5), chance.Intn(5))
	case 6, 7:
		return of([]api.EventKind{api.EngagedIn, api.DisengagedOf, api.ReleasedOf}[chance.Intn(3)], chance.Intn(5))
	case 8:
		if chance.Intn(4) == 0 {
			return api.Event{Kind: api.EventKind(chance.Intn(12)), Op: chanceOp(chance, t), N: number(), M: number()}
		}
	}
	return did(chanceOp(chance, t))
}

func chanceEvents(chance *rand.Rand, many int) []api.Event {
	l := make([]api.Event, many)
	s := stitch.New(24)
	for i := range l {
		l[i] = chanceEvent(chance, s.Tree())
		s, _ = apply(s, l[i])
	}
	return l
}

// P25.1, P25.4: Parse of Print are the events; what is not right has no line.
func TestLinesAgainstTheWords(t *testing.T) {
	chance := rand.New(rand.NewSource(251))
	rights := 0
	for range 3000 {
		l := chanceEvents(chance, chance.Intn(12))
		want, right := "", true
		for _, event := range l {
			if Right(event) != isRight(event) {
				t.Fatal("Right", event)
			}
			right = right && isRight(event)
			want += lineOf(event) + "\n"
		}
		text, e := Print(l)
		if !right {
			if text != "" || e != api.ErrForm {
				t.Fatal(l, text, e)
			}
			continue
		}
		rights++
		got, r := Parse(text)
		if e != api.OK || r != api.OK || text != want || !slices.Equal(got, l) {
			t.Fatal(l, text, e, got, r)
		}
	}
	if rights < 500 {
		t.Error("too few", rights)
	}
}

// P25.1, P1: lines changed in a byte, and texts of any bytes; what is read is what would be printed so.
func TestParseAnyText(t *testing.T) {
	chance := rand.New(rand.NewSource(2511))
	pieces := []string{"do", "do ", "create", "write", "flush", "sync", "crash", "group", "depend", "engage", "rest", "release", " ", " ", "\n", "\n", "/a", "0", "1", "99", "100", "\"x\"", "\x00", "\xff", "é", "-", "+"}
	seen := 0
	for i := range 20000 {
		var text string
		if i%2 == 0 {
			text, _ = Print(slices.DeleteFunc(chanceEvents(chance, 1+chance.Intn(3)), func(e api.Event) bool { return !isRight(e) }))
			b := []byte(text)
			if len(b) > 0 && chance.Intn(4) > 0 {
				b[chance.Intn(len(b))] = []byte("0159 \n/ab\"%-\x00\xff")[chance.Intn(14)]
			}
			text = string(b)
		} else {
			for range chance.Intn(8) {
				text += pieces[chance.Intn(len(pieces))]
			}
		}
		l, e := Parse(text)
		lines := strings.Split(text, "\n")
		want := lines[len(lines)-1] == "" && !slices.ContainsFunc(lines[:len(lines)-1], func(line string) bool { return !isLine(line) })
		if (e == api.OK) != want || e != api.OK && (l != nil || e != api.ErrForm) {
			t.Fatalf("%q %v %v", text, l, e)
		}
		if again, r := Print(l); e == api.OK && (again != text || r != api.OK) {
			t.Fatalf("%q %v %q", text, l, again)
		}
		if e == api.OK && text != "" {
			seen++
		}
	}
	if seen < 1000 {
		t.Error("too few", seen)
	}
}

// P25.2, P25.3, P25.6: long rows of events against the words.
func TestAgainstTheWords(t *testing.T) {
	chance := rand.New(rand.NewSource(252))
	errs, most := [16]int{}, 0
	for range 150 {
		blocks := 16 + chance.Intn(4+20*chance.Intn(2))
		l := chanceEvents(chance, chance.Intn(201))
		s, want, lost := play(blocks, l)
		got, has := Play(blocks, l)
		if (s == nil) != (got == nil) || !slices.Equal(has, want) || s != nil && !tell(got).same(tell(s)) {
			t.Fatal("Play", blocks, l, has, want)
		}
		many, e := Lost(blocks, l)
		if e != api.OK || !slices.Equal(many, lost) {
			t.Fatal("Lost", blocks, l, many, lost)
		}
		for i, event := range l {
			errs[want[i]]++
			most = max(most, lost[i])
			if event == sync && lost[i] != 0 {
				t.Fatal("behind sync", lost[i])
			}
		}
	}
	for _, e := range []api.Errno{api.OK, api.ErrRange, api.ErrForm, api.ErrSpace, api.ErrNoent, api.ErrExist, api.ErrNotdir, api.ErrIsdir, api.ErrNotempty, api.ErrState} {
		if errs[e] < 20 {
			t.Error("too few of", e, errs)
		}
	}
	if most < 4 {
		t.Error("never more lost than", most)
	}
}

// P25.3
func TestShrinkAgainstTheWords(t *testing.T) {
	chance := rand.New(rand.NewSource(253))
	there := [2]int{}
	for range 150 {
		blocks := 16 + chance.Intn(4+20*chance.Intn(2))
		l := chanceEvents(chance, chance.Intn(60))
		path := chancePath(chance)
		if s, _ := Play(blocks, l); s != nil && chance.Intn(2) == 0 {
			nodes := s.Tree()
			path = nodes[len(nodes)-1].Path
		}
		got, e := Shrink(blocks, l, path)
		want := shrunk(blocks, l, path)
		if e != api.OK || !slices.Equal(got, want) {
			t.Fatal("Shrink", blocks, l, path, got, want)
		}
		there[min(len(got), 1)]++
		whole, _ := Play(blocks, l)
		short, _ := Play(blocks, got)
		if has(whole, path) != has(short, path) {
			t.Fatal("it is not the same behind what is left", l, got, path)
		}
	}
	if there[0] < 10 || there[1] < 30 {
		t.Error("too few", there)
	}
}

// P25.3, P25.5: settled events come to the same image, without an error.
func TestSettledAgainstTheWords(t *testing.T) {
	chance := rand.New(rand.NewSource(255))
	seen := 0
	for range 200 {
		blocks := 16 + chance.Intn(4+20*chance.Intn(2))
		l := chanceEvents(chance, chance.Intn(201))
		s, errs, _ := play(blocks, l)
		var want []api.Event
		for i, e := range errs {
			if e == api.OK {
				want = append(want, l[i])
			}
		}
		got, e := Settled(blocks, l)
		if e != api.OK || !slices.Equal(got, want) {
			t.Fatal("Settled", blocks, l, got, want)
		}
		if slices.Contains(errs, api.ErrFull) {
			continue
		}
		again, has := Play(blocks, got)
		if slices.ContainsFunc(has, func(e api.Errno) bool { return e != api.OK }) || !same(again.Image(), s.Image()) || !same(again.Crash(nil), s.Crash(nil)) {
			t.Fatal("settled events come to another image", blocks, l, has)
		}
		if len(got) < len(l) {
			seen++
		}
	}
	if seen < 100 {
		t.Error("too few", seen)
	}
}
