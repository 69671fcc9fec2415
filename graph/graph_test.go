package graph

import (
	"math"
	"slices"
	"testing"
)

// every calls f with all deps of n numbers that are right and name none twice.
func every(n int, f func(deps [][]int)) {
	deps := make([][]int, n)
	var lay func(at int)
	lay = func(at int) {
		if at == n {
			f(deps)
			return
		}
		for bits := range 1 << at {
			deps[at] = members(bits)
			lay(at + 1)
		}
	}
	lay(0)
}

// members are the numbers whose bits are set.
func members(bits int) []int {
	var l []int
	for n := range 20 {
		if bits>>n&1 == 1 {
			l = append(l, n)
		}
	}
	return l
}

// number is a set as bits.
func number(l []int) int {
	bits := 0
	for _, n := range l {
		bits |= 1 << n
	}
	return bits
}

// ahead says by the words alone whether a must come ahead of b.
func ahead(deps [][]int, a, b int) bool {
	for _, d := range deps[b] {
		if d == a || ahead(deps, a, d) {
			return true
		}
	}
	return false
}

// closed says by the words alone whether a set has all deps of its members.
func closed(deps [][]int, bits int) bool {
	for _, n := range members(bits) {
		if number(deps[n])&^bits != 0 {
			return false
		}
	}
	return true
}

// row are the numbers from 0 to below n.
func row(n int) []int {
	l := make([]int, n)
	for i := range l {
		l[i] = i
	}
	return l
}

// chain are n numbers, each behind the one ahead.
func chain(n int) [][]int {
	deps := make([][]int, n)
	for i := 1; i < n; i++ {
		deps[i] = []int{i - 1}
	}
	return deps
}

// full are n numbers, each behind all ahead.
func full(n int) [][]int {
	deps := make([][]int, n)
	for i := range deps {
		deps[i] = row(i)
	}
	return deps
}

// twice are the deps of two numbers: the second one names the first one so many times.
func twice(many int) [][]int {
	return [][]int{nil, make([]int, many)}
}

// wrongs are deps that are not right.
func wrongs() [][][]int {
	return [][][]int{
		{{0}}, {{1}}, {{-1}}, {nil, {1}}, {nil, {2}}, {nil, {-1}}, {nil, {0, -1}}, {nil, {0}, {0, 1, 2}}, {nil, {0}, {1, 0, 3}}, {nil, nil, {0, 1}, {2, 1, 3, 0}},
		{nil, {math.MaxInt}}, {nil, {math.MinInt}}, {{}, {0}, {}, {math.MaxInt, 0}}, {nil, {1}, {0}}, {nil, nil, nil, {256}},
		make([][]int, 257), chain(257), full(257), make([][]int, 5000), twice(257), twice(100000),
		append(chain(255), []int{255}), append(full(255), make([]int, 257)),
	}
}

// odd are numbers that no deps have.
func odd() []int {
	return []int{-1, -2, math.MinInt, math.MaxInt, 256, 257, 1 << 32, 5000}
}

// P5.1
func TestRight(t *testing.T) {
	for _, deps := range [][][]int{nil, {}, {nil}, {{}}, {{}, {}}, {nil, {0}}, {nil, {0, 0}}, {nil, nil, {1, 0, 1, 0}}, make([][]int, 256), chain(256), full(256), twice(256), append(chain(255), []int{254, 0})} {
		if !Right(deps) {
			t.Error(len(deps), deps)
		}
	}
	for i, deps := range wrongs() {
		if Right(deps) {
			t.Error(i)
		}
	}
	every(5, func(deps [][]int) {
		if !Right(deps) {
			t.Error(deps)
		}
		for n := range deps {
			was := deps[n]
			for _, d := range []int{-1, n, n + 1, 5} {
				for at := range len(was) + 1 {
					deps[n] = slices.Insert(slices.Clone(was), at, d)
					if Right(deps) {
						t.Error(deps)
					}
				}
			}
			deps[n] = was
		}
	})
}

// P5.1, P5.2: of deps that are not right nothing is told, whatever else is handed in.
func TestOfWrongs(t *testing.T) {
	for i, deps := range wrongs() {
		for _, set := range [][]int{nil, {}, {0}, {1}, {0, 1}, row(300)} {
			if Closed(deps, set) || len(Close(deps, set)) != 0 || len(Ready(deps, nil, set)) != 0 || len(Ready(deps, set, row(300))) != 0 {
				t.Error(i, set)
			}
		}
		for _, a := range append(odd(), 0, 1, 2, 3, 254, 255) {
			if Above(deps, a) != nil || Depth(deps, a) != 0 {
				t.Error(i, a)
			}
			for _, b := range append(odd(), 0, 1, 2, 3, 254, 255) {
				if Before(deps, a, b) {
					t.Error(i, a, b)
				}
			}
		}
		if Thin(deps) != nil {
			t.Error(i)
		}
	}
}

// P5.1
func TestClosed(t *testing.T) {
	every(5, func(deps [][]int) {
		for bits := range 1 << 5 {
			set := members(bits)
			if Closed(deps, set) != closed(deps, bits) {
				t.Error(deps, set)
			}
			slices.Reverse(set)
			if Closed(deps, append(set, set...)) != closed(deps, bits) {
				t.Error(deps, set, "falling, twice")
			}
		}
	})
	deps := [][]int{nil, {0}, {0, 1}}
	for _, n := range append(odd(), 3) {
		if Closed(deps, []int{n}) || Closed(deps, []int{0, 1, 2, n}) || Closed(deps, []int{n, 0}) || Closed(nil, []int{n}) {
			t.Error(n)
		}
	}
	if !Closed(nil, nil) || !Closed([][]int{}, []int{}) || !Closed(deps, nil) || Closed(nil, []int{0}) {
		t.Error("of nothing")
	}
	if !Closed(chain(256), row(256)) || !Closed(chain(256), row(255)) || Closed(chain(256), row(256)[1:]) || Closed(full(256), []int{255}) || !Closed(twice(256), row(2)) {
		t.Error("of 256")
	}
}

// P5.1, P5.3: Close is Closed, has the set, and is within each closed set that has it.
func TestClose(t *testing.T) {
	every(5, func(deps [][]int) {
		for bits := range 1 << 5 {
			set := members(bits)
			got := Close(deps, set)
			var want []int
			for n := range deps {
				if slices.Contains(set, n) || slices.ContainsFunc(set, func(m int) bool { return ahead(deps, n, m) }) {
					want = append(want, n)
				}
			}
			if !slices.Equal(got, want) {
				t.Error(deps, set, got)
			}
			if !Closed(deps, got) || bits&^number(got) != 0 {
				t.Error(deps, set, got, "not closed")
			}
			for other := range 1 << 5 {
				if bits&^other == 0 && closed(deps, other) && number(got)&^other != 0 {
					t.Error(deps, set, got, "greater than", other)
				}
			}
			slices.Reverse(set)
			if again := Close(deps, slices.Concat(odd(), set, []int{5}, set)); !slices.Equal(again, want) {
				t.Error(deps, set, again, "falling, twice, with odd ones")
			}
		}
	})
	if len(Close(nil, nil)) != 0 || len(Close(nil, []int{0})) != 0 || len(Close(chain(5), nil)) != 0 || len(Close(chain(5), odd())) != 0 {
		t.Error("of nothing")
	}
	if !slices.Equal(Close(chain(256), []int{255}), row(256)) || !slices.Equal(Close(full(256), []int{255, 3}), row(256)) || !slices.Equal(Close(chain(256), []int{254}), row(255)) || !slices.Equal(Close(twice(256), []int{1}), row(2)) {
		t.Error("of 256")
	}
}

// P5.1, P5.4
func TestReady(t *testing.T) {
	every(4, func(deps [][]int) {
		for done := range 1 << 4 {
			for some := range 1 << 4 {
				got := Ready(deps, members(done), members(some))
				want := 0 // the union of all sets that may be is the greatest
				for set := range 1 << 4 {
					if set&^some == 0 && set&done == 0 && fits(deps, done, set) {
						want |= set
					}
				}
				if !slices.Equal(got, members(want)) {
					t.Error(deps, done, some, got)
				}
				if closed(deps, done) && !Closed(deps, append(members(done), got...)) {
					t.Error(deps, done, some, got, "not closed")
				}
				a, b := members(done), members(some)
				slices.Reverse(a)
				slices.Reverse(b)
				if again := Ready(deps, slices.Concat(odd(), a, a), slices.Concat(b, odd(), []int{4}, b)); !slices.Equal(again, got) {
					t.Error(deps, done, some, again, "falling, twice, with odd ones")
				}
			}
		}
	})
	if len(Ready(nil, nil, nil)) != 0 || len(Ready(nil, []int{0}, []int{0, 1})) != 0 || len(Ready(chain(4), nil, nil)) != 0 || len(Ready(chain(4), row(4), row(4))) != 0 || len(Ready(chain(4), nil, []int{1, 2, 3})) != 0 {
		t.Error("none")
	}
	// What is done need not be closed.
	if got := Ready(chain(5), []int{1}, []int{2, 4}); !slices.Equal(got, []int{2}) {
		t.Error(got)
	}
	if !slices.Equal(Ready(chain(256), nil, row(256)), row(256)) || !slices.Equal(Ready(full(256), row(255), row(256)), []int{255}) || !slices.Equal(Ready(twice(256), []int{0}, []int{1}), []int{1}) {
		t.Error("of 256")
	}
}

// fits: are all deps of a set done, or in it?
func fits(deps [][]int, done, set int) bool {
	for _, n := range members(set) {
		if number(deps[n])&^(done|set) != 0 {
			return false
		}
	}
	return true
}

// P5.2
func TestBeforeAndAbove(t *testing.T) {
	every(5, func(deps [][]int) {
		for a := range deps {
			var above []int
			for b := range deps {
				if Before(deps, a, b) != ahead(deps, a, b) {
					t.Error("Before", deps, a, b)
				}
				if ahead(deps, a, b) {
					above = append(above, b)
				}
			}
			if got := Above(deps, a); !slices.Equal(got, above) {
				t.Error("Above", deps, a, got)
			}
		}
	})
	deps := full(4)
	for _, n := range append(odd(), 4) {
		for m := range 4 {
			if Before(deps, n, m) || Before(deps, m, n) || Before(deps, m, m) {
				t.Error(n, m)
			}
		}
		if Before(deps, n, n) || Above(deps, n) != nil || Above(nil, n) != nil || Before(nil, n, n) {
			t.Error(n)
		}
	}
	if !Before(chain(256), 0, 255) || Before(chain(256), 255, 0) || !Before(full(256), 254, 255) || !Before(twice(256), 0, 1) {
		t.Error("of 256")
	}
	if !slices.Equal(Above(chain(256), 0), row(256)[1:]) || Above(chain(256), 255) != nil || !slices.Equal(Above(full(256), 254), []int{255}) || !slices.Equal(Above(twice(256), 0), []int{1}) {
		t.Error("above of 256")
	}
}

// P5.2
func TestDepth(t *testing.T) {
	every(5, func(deps [][]int) {
		var depth func(a int) int
		depth = func(a int) int {
			deepest := 0
			for _, d := range deps[a] {
				deepest = max(deepest, depth(d))
			}
			return 1 + deepest
		}
		for a := range deps {
			if got := Depth(deps, a); got != depth(a) {
				t.Error(deps, a, got)
			}
		}
		for _, a := range append(odd(), 5) {
			if Depth(deps, a) != 0 {
				t.Error(deps, a)
			}
		}
	})
	for a := range 256 {
		if Depth(chain(256), a) != a+1 || Depth(full(256), a) != a+1 || Depth(make([][]int, 256), a) != 1 {
			t.Error(a)
		}
	}
	if Depth(nil, 0) != 0 || Depth(twice(256), 1) != 2 {
		t.Error("of few")
	}
}

// P5.2, P5.5
func TestThin(t *testing.T) {
	every(5, func(deps [][]int) {
		thin := Thin(deps)
		if len(thin) != len(deps) || !Right(thin) {
			t.Fatal(deps, thin)
		}
		mixed := make([][]int, len(deps))
		for n, l := range deps {
			var want []int
			for _, d := range l {
				if !slices.ContainsFunc(l, func(m int) bool { return ahead(deps, d, m) }) {
					want = append(want, d)
				}
			}
			if !slices.Equal(thin[n], want) {
				t.Error(deps, n, thin)
			}
			for a := range deps {
				if ahead(thin, a, n) != ahead(deps, a, n) {
					t.Error(deps, a, n, "says another thing")
				}
			}
			mixed[n] = slices.Concat(l, l)
			slices.Reverse(mixed[n])
		}
		if again := Thin(mixed); !slices.EqualFunc(again, thin, slices.Equal) {
			t.Error(mixed, again, "falling, twice")
		}
		if again := Thin(thin); !slices.EqualFunc(again, thin, slices.Equal) {
			t.Error(thin, again, "of Thin")
		}
	})
	same := func(a, b [][]int) bool { return slices.EqualFunc(a, b, slices.Equal) }
	if !same(Thin([][]int{nil, {0}, {0, 1}}), [][]int{nil, {0}, {1}}) {
		t.Error("the example")
	}
	// What is taken away may be said by what is taken away itself.
	if !same(Thin([][]int{nil, {0}, {1}, {2, 1, 0}}), chain(4)) || !same(Thin([][]int{nil, {0}, {1}, {2}, {3, 0}}), chain(5)) {
		t.Error("over several")
	}
	if !same(Thin(full(256)), chain(256)) || !same(Thin(chain(256)), chain(256)) || !same(Thin(twice(256)), chain(2)) || !same(Thin(make([][]int, 256)), make([][]int, 256)) {
		t.Error("of 256")
	}
	if len(Thin(nil)) != 0 || len(Thin([][]int{})) != 0 {
		t.Error("of none")
	}
}

// P5.1, P5.2: what is handed in stays, spare room too; what is answered is the caller's.
func TestNothingIsShared(t *testing.T) {
	room := []int{0, 1, 77, 0, 0, 2, 77, 3, 1, 77}
	deps := [][]int{nil, room[0:1], {0, 1}, room[3:6], {77}}[:4]
	some := room[7:9]
	was := slices.Clone(room)
	stays := func(call string) {
		t.Helper()
		if !slices.Equal(room, was) || len(deps[:5][4]) != 1 || deps[:5][4][0] != 77 || !slices.Equal(deps[2], []int{0, 1}) || len(deps[0]) != 0 || len(deps[1]) != 1 || len(deps[3]) != 3 {
			t.Error(call, room, deps)
		}
	}
	use := func(call string, l []int) {
		t.Helper()
		for i := range l {
			l[i] = -5
		}
		for range 4 {
			l = append(l, -6)
		}
		stays(call)
	}
	Right(deps)
	Closed(deps, some)
	Before(deps, 0, 3)
	Depth(deps, 3)
	stays("what answers no list")
	use("Close", Close(deps, some))
	use("Close", Close(deps, []int{0}))
	use("Ready", Ready(deps, nil, row(4)))
	use("Ready", Ready(deps, some, some))
	use("Above", Above(deps, 0))
	thin := Thin(deps)
	for n := range thin {
		again := Thin(deps)
		use("Thin", thin[n])
		for m := n + 1; m < len(thin); m++ {
			if !slices.Equal(thin[m], again[m]) {
				t.Error(n, m, thin)
			}
		}
		if !slices.Equal(Thin(deps)[n], again[n]) {
			t.Error(n, "kept")
		}
	}
	own := [][]int{nil, {0}, {1}}
	for n, l := range Thin(own) {
		use("Thin", l)
		if len(own[n]) > 0 && own[n][0] != n-1 {
			t.Error(own)
		}
	}
}
