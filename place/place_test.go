package place

import (
	"math"
	"slices"
	"testing"

	"selvedge/api"
)

var (
	nan      = math.NaN()
	inf      = math.Inf(1)
	minus0   = math.Copysign(0, -1)
	top      = float64(1 << 20)
	wrongPer = []int{0, -1, 65, 1 << 20, math.MinInt, math.MaxInt}
	wrongAt  = []int{-1, api.MaxPlaces, 1 << 40, math.MinInt, math.MaxInt}
	bent     = []complex128{
		complex(0.5, 0), complex(0, 0.5), complex(-0.25, 3), complex(math.SmallestNonzeroFloat64, 0),
		complex(nan, 0), complex(0, nan), complex(nan, nan),
		complex(inf, 0), complex(0, inf), complex(-inf, 0), complex(0, -inf), complex(inf, nan),
		complex(top+1, 0), complex(0, top+1), complex(-top-1, 0), complex(0, -top-1),
		complex(math.MaxFloat64, 0), complex(0, -math.MaxFloat64), complex(1<<53, 1<<53),
	}
)

// spare is l with room behind its end, and what must stay there.
func spare[T any](rest T, l ...T) []T {
	all := append(slices.Clone(l), rest, rest, rest)
	return all[:len(l):len(all)]
}

func same(t *testing.T, name string, l, was []int) {
	t.Helper()
	if !slices.Equal(l, was) {
		t.Errorf("%s: what was handed in was %v, and is %v", name, was, l)
	}
}

// numbers are pseudo-random blocks, the same ones each time.
func numbers(seed, n, below int) []int {
	l := make([]int, n)
	for i := range l {
		seed = (seed*1103515245 + 12345) & (1<<31 - 1)
		l[i] = seed >> 8 % below
	}
	return l
}

// P1.1, P1.4
func TestAtAndBlockAreEachOthersContrary(t *testing.T) {
	for per := 1; per <= 64; per++ {
		track, on := 0, 0
		for block := range api.MaxPlaces {
			z, e := At(block, per)
			if e != api.OK || z != complex(float64(track), float64(on)) {
				t.Fatal("At", block, per, z, e)
			}
			if b, ok := Block(z, per); b != block || !ok {
				t.Fatal("Block", z, per, b, ok)
			}
			if on++; on == per {
				track, on = track+1, 0
			}
		}
	}
}

// P1.1
func TestAtOfWrongNumbers(t *testing.T) {
	for _, block := range wrongAt {
		for _, per := range append([]int{1, 5, 64}, wrongPer...) {
			if z, e := At(block, per); z != 0 || e != api.ErrRange {
				t.Error(block, per, z, e)
			}
		}
	}
	for _, per := range wrongPer {
		for _, block := range []int{0, 1, api.MaxPlaces - 1} {
			if z, e := At(block, per); z != 0 || e != api.ErrRange {
				t.Error(block, per, z, e)
			}
		}
	}
}

// P1.1
func TestBlockOfWhatIsNoPlaceOfOne(t *testing.T) {
	none := append([]complex128{-1, complex(0, -1), complex(1, -1), complex(-1, 6), complex(-top, -top), complex(top, top), complex(api.MaxPlaces, 0)}, bent...)
	for per := 1; per <= 64; per++ {
		row := float64(api.MaxPlaces / per)
		behind := complex(row, float64(api.MaxPlaces%per))
		for _, z := range append(none, complex(0, float64(per)), complex(1, float64(per)), behind, complex(row+1, 0)) {
			if b, ok := Block(z, per); b != 0 || ok {
				t.Error(z, per, b, ok)
			}
		}
	}
	for _, per := range wrongPer {
		for _, z := range []complex128{0, 1, complex(2, 3), complex(top, top), complex(-1, 0)} {
			if b, ok := Block(z, per); b != 0 || ok {
				t.Error(z, per, b, ok)
			}
		}
	}
}

// P1.1 with P5
func TestBlockAndTheSignOfZero(t *testing.T) {
	if b, ok := Block(complex(minus0, 3), 5); b != 3 || !ok {
		t.Error(b, ok)
	}
	if b, ok := Block(complex(2, minus0), 5); b != 10 || !ok {
		t.Error(b, ok)
	}
	if b, ok := Block(complex(minus0, minus0), 1); b != 0 || !ok {
		t.Error(b, ok)
	}
}

// P1.2
func TestWay(t *testing.T) {
	for _, x := range []struct {
		a, b complex128
		far  int
	}{
		{0, 0, 0},
		{complex(2, 3), complex(0, 4), 3},
		{complex(2, 3), complex(2, 3), 0},
		{complex(-2, 3), complex(2, -3), 10},
		{complex(top, top), complex(-top, -top), 1 << 22},
		{complex(top, -top), 0, 1 << 21},
		{complex(minus0, 1), complex(0, minus0), 1},
	} {
		if Way(x.a, x.b) != x.far || Way(x.b, x.a) != x.far {
			t.Error(x, Way(x.a, x.b), Way(x.b, x.a))
		}
	}
	for _, z := range bent {
		if Way(z, 1) != 0 || Way(1, z) != 0 || Way(z, z) != 0 {
			t.Error(z, Way(z, 1), Way(1, z), Way(z, z))
		}
	}
}

// P1.2
func TestExampleOfTheChapter(t *testing.T) {
	z, _ := At(13, 5)
	four, _ := At(4, 5)
	if z != complex(2, 3) || Way(z, four) != 3 {
		t.Error(z, four, Way(z, four))
	}
}

// P1.2
func TestRoute(t *testing.T) {
	for _, x := range []struct {
		from int
		l    []int
		per  int
		far  int
	}{
		{0, nil, 5, 0},
		{1023, []int{}, 64, 0},
		{0, []int{11, 4}, 5, 3 + 5},
		{7, []int{7, 7, 7}, 5, 0},
		{0, []int{1023, 0, 1023}, 1, 3 * 1023},
		{0, []int{1023, 0}, 64, 2 * (15 + 63)},
		{13, []int{4, 13, 4}, 5, 9},
	} {
		if far, e := Route(x.from, x.l, x.per); far != x.far || e != api.OK {
			t.Error(x, far, e)
		}
	}
}

// P1.2
func TestErrorsOfLists(t *testing.T) {
	fails := func(from int, l []int, per int) {
		t.Helper()
		if far, e := Route(from, l, per); far != 0 || e != api.ErrRange {
			t.Error("Route", from, l, per, far, e)
		}
		if n, ok := Next(from, l, per); n != 0 || ok {
			t.Error("Next", from, l, per, n, ok)
		}
		if all, e := Sweep(from, l, per); len(all) != 0 || e != api.ErrRange {
			t.Error("Sweep", from, l, per, all, e)
		}
	}
	for _, per := range wrongPer {
		fails(0, nil, per)
		fails(0, []int{0}, per)
	}
	for _, wrong := range wrongAt {
		fails(wrong, nil, 5)
		fails(wrong, []int{1, 2}, 5)
		for at := range 3 {
			l := []int{9, 8, 7}
			l[at] = wrong
			fails(3, l, 5)
			fails(l[0], []int{wrong}, 5)
		}
	}
}

// P1.2
func TestNext(t *testing.T) {
	for _, x := range []struct {
		from int
		l    []int
		per  int
		at   int
	}{
		{0, []int{1023}, 1, 0},
		{6, []int{20, 0, 7, 12}, 5, 2},
		{12, []int{20, 0}, 5, 0},
		{12, []int{0, 20}, 5, 0},
		{12, []int{1, 20, 0, 20}, 5, 0},
		{12, []int{23, 20, 0, 20}, 5, 0},
		{12, []int{4, 11, 13, 17, 7}, 5, 1},
		{4, []int{5, 9}, 5, 1},
		{5, []int{6, 5, 5}, 5, 1},
		{1023, []int{0, 1023, 1}, 64, 1},
	} {
		if at, ok := Next(x.from, x.l, x.per); at != x.at || !ok {
			t.Error(x, at, ok)
		}
	}
	for _, l := range [][]int{nil, {}} {
		if at, ok := Next(0, l, 5); at != 0 || ok {
			t.Error(at, ok)
		}
	}
}

// slowSweep is what the chapter says, word for word.
func slowSweep(from int, l []int, per int) []int {
	left, all := slices.Clone(l), []int{}
	for len(left) > 0 {
		n, _ := Next(from, left, per)
		from = left[n]
		all = append(all, from)
		left = slices.Delete(left, n, n+1)
	}
	return all
}

// P1.2, P1.5
func TestSweep(t *testing.T) {
	if l, e := Sweep(6, []int{20, 0, 7, 12}, 5); e != api.OK || !slices.Equal(l, []int{7, 12, 20, 0}) {
		t.Error(l, e)
	}
	if l, e := Sweep(6, []int{0, 20, 7, 12}, 5); e != api.OK || !slices.Equal(l, []int{7, 12, 0, 20}) {
		t.Error(l, e)
	}
	for _, l := range [][]int{nil, {}} {
		if all, e := Sweep(0, l, 1); e != api.OK || len(all) != 0 {
			t.Error(all, e)
		}
	}
	for _, per := range []int{1, 2, 5, 7, 31, 32, 63, 64} {
		for _, below := range []int{3, 20, 200, api.MaxPlaces} {
			for n := range 40 {
				l := numbers(n*97+per, n, below)
				sweeps(t, (n*331+below)%api.MaxPlaces, l, per)
			}
		}
	}
}

// sweeps holds Sweep against the chapter's words, and what follows from them.
func sweeps(t *testing.T, from int, l []int, per int) {
	t.Helper()
	all, e := Sweep(from, l, per)
	if e != api.OK || !slices.Equal(all, slowSweep(from, l, per)) {
		t.Error(from, l, per, all, e)
	}
	far, e := Route(from, all, per)
	if e != api.OK || far > api.MaxPlaces*len(l) {
		t.Error("route", from, l, per, far, e)
	}
	if !slices.Equal(slices.Sorted(slices.Values(all)), slices.Sorted(slices.Values(l))) {
		t.Error("blocks", from, l, per, all)
	}
}

// P1: a call ends, lists being long too.
func TestSweepOfManyBlocks(t *testing.T) {
	l := numbers(1, 300000, api.MaxPlaces)
	all, e := Sweep(500, l, 5)
	if e != api.OK || !slices.Equal(slices.Sorted(slices.Values(all)), slices.Sorted(slices.Values(l))) {
		t.Error(len(all), e)
	}
}

// P1.3
func TestMiddle(t *testing.T) {
	many := func(z complex128, n int) []complex128 { return slices.Repeat([]complex128{z}, n) }
	for _, x := range []struct {
		l []complex128
		z complex128
	}{
		{nil, 0},
		{[]complex128{}, 0},
		{[]complex128{complex(3, -4)}, complex(3, -4)},
		{[]complex128{1, complex(0, 2)}, complex(0.5, 1)},
		{[]complex128{1, complex(0, 2), 0}, complex(1.0/3, 2.0/3)},
		{[]complex128{complex(top, -top), complex(-top, top)}, 0},
		{[]complex128{complex(top, -top), complex(top, -top)}, complex(top, -top)},
		{many(complex(top, -top), 1000), complex(top, -top)},
		{many(complex(2, 1), 1001), 0},
		{many(complex(2, 1), 5000), 0},
		{append(many(complex(7, 1), 999), complex(8, minus0)), complex(7.001, 0.999)},
	} {
		if z := Middle(x.l); z != x.z {
			t.Error(len(x.l), z, x.z)
		}
	}
	for _, wrong := range bent {
		for at := range 3 {
			l := many(complex(5, 5), 3)
			l[at] = wrong
			if z := Middle(l); z != 0 {
				t.Error(l, z)
			}
		}
	}
}

// P1.3
func TestTurn(t *testing.T) {
	for _, z := range []complex128{complex(2, 1), complex(-3, 4), complex(top, -top), complex(-top, 0), complex(0, 1)} {
		a, b := real(z), imag(z)
		turned := [4]complex128{z, complex(-b, a), complex(-a, -b), complex(b, -a)}
		for quarters := -9; quarters <= 9; quarters++ {
			if got := Turn(z, quarters); got != turned[(quarters+12)%4] {
				t.Error(z, quarters, got)
			}
		}
		if Turn(z, math.MaxInt) != turned[3] || Turn(z, math.MinInt) != turned[0] || Turn(z, math.MinInt+1) != turned[1] || Turn(z, math.MaxInt-1) != turned[2] {
			t.Error("far turns of", z)
		}
	}
	for _, z := range bent {
		for quarters := -4; quarters <= 4; quarters++ {
			if got := Turn(z, quarters); got != 0 {
				t.Error(z, quarters, got)
			}
		}
	}
}

// P3
func TestWhatIsHandedInStays(t *testing.T) {
	l := spare(-77, 20, 0, 7, 12, 7)
	was := slices.Clone(l[:cap(l)])
	Route(6, l, 5)
	same(t, "Route", l[:cap(l)], was)
	Next(6, l, 5)
	same(t, "Next", l[:cap(l)], was)
	all, _ := Sweep(6, l, 5)
	same(t, "Sweep", l[:cap(l)], was)
	clear(all[:cap(all)])
	same(t, "what Sweep answered", l[:cap(l)], was)
	Sweep(6, l[:0], 5)
	same(t, "Sweep of none", l[:cap(l)], was)
	places := spare(complex(-7, 7), 1, complex(0, 2), complex(3, 3))
	before := slices.Clone(places[:cap(places)])
	Middle(places)
	if !slices.Equal(places[:cap(places)], before) {
		t.Error("Middle", places[:cap(places)])
	}
}

// P3, P6
func TestWhatIsAnsweredIsTheCallers(t *testing.T) {
	l := []int{20, 0, 7, 12}
	one, _ := Sweep(6, l, 5)
	two, _ := Sweep(6, l, 5)
	was := slices.Clone(two)
	for i := range one {
		one[i] = -1
	}
	same(t, "the other answer", two, was)
	three, _ := Sweep(6, l, 5)
	same(t, "the next answer", three, was)
}
