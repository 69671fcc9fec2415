package merge

import (
	"bytes"
	"math"
	"slices"
	"strings"
	"testing"

	"selvedge/api"
	"selvedge/graph"
	"selvedge/patch"
)

// item is one of a block, whose patch writes its first byte.
func item(block int, deps ...int) api.Item {
	return api.Item{Patch: api.Patch{Block: block, Data: "x"}, Deps: deps}
}

// every calls f with all items of n patches, on two blocks, with all deps that name none twice.
func every(n int, f func(l []api.Item)) {
	l := make([]api.Item, n)
	var lay func(at int)
	lay = func(at int) {
		if at == n {
			f(l)
			return
		}
		for block := range 2 {
			for bits := range 1 << at {
				l[at] = item(block, members(bits)...)
				lay(at + 1)
			}
		}
	}
	lay(0)
}

// members are the numbers whose bits are set.
func members(bits int) []int {
	var l []int
	for n := range 20 {
		if bits>>n&1 == 1 {
			l = append(l, n)
		}
	}
	return l
}

// ahead says by the words alone whether a must come ahead of b.
func ahead(l []api.Item, a, b int) bool {
	for _, d := range l[b].Deps {
		if d == a || ahead(l, a, d) {
			return true
		}
	}
	return false
}

// row are the numbers from 0 to below n.
func row(n int) []int {
	l := make([]int, n)
	for i := range l {
		l[i] = i
	}
	return l
}

// alone are n groups of an item each.
func alone(n int) [][]int {
	l := make([][]int, n)
	for i := range l {
		l[i] = []int{i}
	}
	return l
}

// chain are n items of a block, each behind the one ahead.
func chain(n, block int) []api.Item {
	l := make([]api.Item, n)
	for i := range l {
		l[i] = item(block)
		if i > 0 {
			l[i].Deps = []int{i - 1}
		}
	}
	return l
}

// spread are n items, each on a block of its own, behind all ahead.
func spread(n int) []api.Item {
	l := make([]api.Item, n)
	for i := range l {
		l[i] = item(i, row(i)...)
	}
	return l
}

// wrongPatches are patches that are not right.
func wrongPatches() []api.Patch {
	return []api.Patch{
		{}, {Block: -1, Data: "x"}, {Block: api.MaxBlocks, Data: "x"}, {Block: math.MaxInt, Data: "x"}, {Block: math.MinInt, Data: "x"}, {Off: -1, Data: "xy"},
		{Off: api.BlockSize, Data: "x"}, {Off: 31, Data: "xy"}, {Off: math.MaxInt, Data: "x"}, {Off: math.MinInt, Data: "x"}, {Data: strings.Repeat("x", 33)}, {Block: 2, Off: 5},
	}
}

// wrongs are items that are not right.
func wrongs() [][]api.Item {
	l := [][]api.Item{chain(65, 0), spread(65), chain(1000, 3), make([]api.Item, 65), make([]api.Item, 1), {item(1), {Deps: []int{0}}}}
	for _, p := range wrongPatches() {
		l = append(l, []api.Item{{Patch: p}}, []api.Item{item(0), {Patch: p, Deps: []int{0}}, item(1, 0)}, append(chain(63, 1), api.Item{Patch: p}))
	}
	for _, deps := range [][]int{{1}, {2}, {-1}, {0, 1}, {0, -1}, {math.MaxInt}, {math.MinInt, 0}, {64}, make([]int, 257)} {
		l = append(l, []api.Item{item(0), item(0, deps...), item(1)})
	}
	return append(l, []api.Item{item(0, 0)}, []api.Item{item(0, -1)}, append(chain(63, 1), item(1, 63)))
}

// odd are numbers that no items and no groups have.
func odd() []int {
	return []int{-1, -2, math.MinInt, math.MaxInt, 64, 65, 256, 1 << 32}
}

// same tells whether two hold the same numbers.
func same(a, b [][]int) bool {
	return slices.EqualFunc(a, b, slices.Equal)
}

// P6.1
func TestRight(t *testing.T) {
	for _, l := range [][]api.Item{nil, {}, {item(0)}, {item(95), item(95, 0, 0)}, {item(3), item(3, make([]int, 256)...)}, chain(64, 95), spread(64), make([]api.Item, 0, 100)} {
		if !Right(l) {
			t.Error(len(l), l)
		}
	}
	for i, l := range wrongs() {
		if Right(l) {
			t.Error(i, l)
		}
	}
}

// P6.2, P6.3: of items that are not right nothing is told, but copies.
func TestOfWrongs(t *testing.T) {
	for i, l := range wrongs() {
		if len(Groups(l)) != 0 || len(Deps(l)) != 0 {
			t.Error(i)
		}
		for _, some := range [][]int{nil, {0}, row(100), odd()} {
			if len(Expand(l, some)) != 0 {
				t.Error(i, some)
			}
			got := Blocks(l, some, [][]byte{make([]byte, api.BlockSize), {1}, nil})
			if len(got) != 3 || !bytes.Equal(got[0], make([]byte, api.BlockSize)) || !bytes.Equal(got[1], []byte{1}) || len(got[2]) != 0 {
				t.Error(i, some, got)
			}
		}
	}
}

// P6.2: what the groups are, by the words alone.
func groupsOf(l []api.Item) [][]int {
	var groups [][]int
	for i, it := range l {
		home := -1
		for g, group := range groups {
			for _, n := range group {
				// Of the groups with its block, that of the greatest number.
				if l[n].Patch.Block == it.Patch.Block && (home < 0 || n > slices.Max(groups[home])) {
					home = g
				}
			}
		}
		joins := home >= 0
		for _, d := range it.Deps {
			joins = joins && (slices.Contains(groups[home], d) || slices.ContainsFunc(groups[home], func(n int) bool { return ahead(l, d, n) }))
		}
		if joins {
			groups[home] = append(groups[home], i)
		} else {
			groups = append(groups, []int{i})
		}
	}
	return groups
}

// P6.2, P6.4
func TestGroups(t *testing.T) {
	for n := range 6 {
		every(n, func(l []api.Item) {
			got := Groups(l)
			if !same(got, groupsOf(l)) {
				t.Fatal(l, got)
			}
			all := slices.Concat(got...)
			slices.Sort(all)
			if !slices.Equal(all, row(n)) {
				t.Fatal(l, got, "each in one")
			}
			for g, group := range got {
				if !slices.IsSorted(group) || g > 0 && got[g-1][0] > group[0] {
					t.Fatal(l, got, "order")
				}
			}
		})
	}
}

// P6.2
func TestGroupsOfSome(t *testing.T) {
	for _, c := range []struct {
		l    []api.Item
		want [][]int
	}{
		{nil, nil}, {[]api.Item{}, nil}, {[]api.Item{item(5)}, alone(1)},
		{chain(3, 7), [][]int{{0, 1, 2}}},
		{chain(64, 7), [][]int{row(64)}},
		{spread(64), alone(64)},
		{[]api.Item{item(1), item(1), item(1)}, [][]int{{0, 1, 2}}}, // no deps at all
		// An item of another block stands between: it comes behind the group, or the third one would.
		{[]api.Item{item(1), item(2, 0), item(1, 1)}, alone(3)},
		{[]api.Item{item(1), item(2, 0), item(1, 0)}, [][]int{{0, 2}, {1}}},
		{[]api.Item{item(1), item(2), item(1, 1)}, alone(3)},
		// What must come ahead of the group already may be a dep, over others too.
		{[]api.Item{item(1), item(2, 0), item(2, 0)}, [][]int{{0}, {1, 2}}},
		{[]api.Item{item(1), item(3, 0), item(2, 1), item(2, 0, 2)}, [][]int{{0}, {1}, {2, 3}}},
		{[]api.Item{item(1), item(3), item(2, 0), item(2, 0, 1)}, alone(4)},
		// It joins the last one's group alone, even where an earlier one would take it.
		{[]api.Item{item(1), item(2), item(1, 1), item(1, 0)}, alone(4)},
		{[]api.Item{item(1), item(2), item(1, 1), item(1, 1)}, [][]int{{0}, {1}, {2, 3}}},
		{[]api.Item{item(1), item(2), item(1, 1), item(1)}, [][]int{{0}, {1}, {2, 3}}},
		// What stands between is of no matter, where there is no dep; deps that are named twice neither.
		{[]api.Item{item(1), item(2), item(1), item(2), item(1, 0, 0, 2)}, [][]int{{0, 2, 4}, {1, 3}}},
		{[]api.Item{item(1), item(1, make([]int, 256)...)}, [][]int{{0, 1}}},
	} {
		if got := Groups(c.l); !same(got, c.want) {
			t.Error(c.l, got, c.want)
		}
	}
}

// P6.2, P6.4, P6.5
func TestDepsAndExpand(t *testing.T) {
	for n := range 6 {
		every(n, func(l []api.Item) {
			groups, deps := Groups(l), Deps(l)
			if len(deps) != len(groups) || !graph.Right(deps) {
				t.Fatal(l, groups, deps)
			}
			for g := range groups {
				var want []int
				for h := range groups {
					if h != g && leads(l, groups[h], groups[g]) {
						want = append(want, h)
					}
				}
				if !slices.Equal(deps[g], want) {
					t.Fatal(l, groups, g, deps)
				}
			}
			for bits := range 1 << len(groups) {
				some := members(bits)
				var want []int
				for _, g := range some {
					want = append(want, groups[g]...)
				}
				slices.Sort(want)
				got := Expand(l, some)
				if !slices.Equal(got, want) {
					t.Fatal(l, some, got)
				}
				if graph.Closed(deps, some) && !graph.Closed(depsOf(l), got) {
					t.Fatal(l, some, got, "not closed")
				}
				slices.Reverse(some)
				if again := Expand(l, slices.Concat(odd(), some, []int{len(groups)}, some)); !slices.Equal(again, want) {
					t.Fatal(l, some, again, "falling, twice, with odd ones")
				}
			}
		})
	}
}

// leads: has one of a group a dep in another one?
func leads(l []api.Item, from, to []int) bool {
	for _, i := range to {
		for _, d := range l[i].Deps {
			if slices.Contains(from, d) {
				return true
			}
		}
	}
	return false
}

// P6.2
func TestDepsAndExpandOfSome(t *testing.T) {
	if len(Deps(nil)) != 0 || len(Expand(nil, nil)) != 0 || len(Expand(nil, []int{0})) != 0 || len(Expand(chain(4, 1), nil)) != 0 || len(Expand(chain(4, 1), odd())) != 0 {
		t.Error("of nothing")
	}
	if !same(Deps(chain(64, 1)), [][]int{nil}) || !slices.Equal(Expand(chain(64, 1), []int{0}), row(64)) || len(Expand(chain(64, 1), []int{1})) != 0 {
		t.Error("of one group")
	}
	all := Deps(spread(64))
	for g := range 64 {
		if !slices.Equal(all[g], row(g)) || !slices.Equal(Expand(spread(64), []int{g}), []int{g}) {
			t.Error(g, all[g])
		}
	}
	if got := Expand(spread(64), slices.Concat(row(64), row(100))); !slices.Equal(got, row(64)) {
		t.Error(got)
	}
	l := []api.Item{item(1), item(2), item(1), item(3, 2, 0, 1, 1), item(2)}
	if !same(Groups(l), [][]int{{0, 2}, {1, 4}, {3}}) || !same(Deps(l), [][]int{nil, nil, {0, 1}}) || !slices.Equal(Expand(l, []int{1, 2}), []int{1, 3, 4}) || !slices.Equal(Expand(l, []int{1, 0}), []int{0, 1, 2, 4}) {
		t.Error(Groups(l), Deps(l))
	}
}

// blocks are n blocks whose bytes tell where they stand.
func blocks(n int) [][]byte {
	l := make([][]byte, n)
	for i := range l {
		l[i] = make([]byte, api.BlockSize)
		for at := range l[i] {
			l[i][at] = byte(i*api.BlockSize + at)
		}
	}
	return l
}

// P6.3
func TestBlocks(t *testing.T) {
	l := []api.Item{
		{Patch: api.Patch{Block: 1, Off: 0, Data: "abcd"}},
		{Patch: api.Patch{Block: 0, Off: 30, Data: "XY"}},
		{Patch: api.Patch{Block: 1, Off: 2, Data: "EFGH"}, Deps: []int{0}},
		{Patch: api.Patch{Block: 1, Off: 6, Data: "ij"}},
		{Patch: api.Patch{Block: 95, Off: 6, Data: "none"}, Deps: []int{1}},
		{Patch: api.Patch{Block: 2, Off: 0, Data: strings.Repeat("w", 32)}},
	}
	for bits := range 1 << len(l) {
		some := members(bits)
		want := blocks(3)
		for _, i := range some {
			if p := l[i].Patch; p.Block < 3 {
				copy(want[p.Block][p.Off:], p.Data)
			}
		}
		falling := slices.Clone(some)
		slices.Reverse(falling)
		for _, list := range [][]int{some, falling, slices.Concat(odd(), falling, []int{6}, some)} {
			if got := Blocks(l, list, blocks(3)); !slices.EqualFunc(got, want, bytes.Equal) {
				t.Error(list, got)
			}
		}
	}
	if got := Blocks(l, []int{2, 0, 2, 3, 0}, blocks(2)); string(got[1][:8]) != "abEFGHij" || got[1][8] != 40 || !bytes.Equal(got[0], blocks(1)[0]) {
		t.Error(got)
	}
	got := Blocks(l, row(6), blocks(96))
	if string(got[95][6:10]) != "none" || got[95][5] != blocks(96)[95][5] || string(got[0][30:]) != "XY" {
		t.Error("of 96", got)
	}
}

// P6.3
func TestBlocksOfOtherSizes(t *testing.T) {
	l := []api.Item{item(0), item(1), item(2), item(3), item(4), item(5)}
	long := append(blocks(1)[0], 7)
	given := [][]byte{nil, {}, {1}, blocks(1)[0][:31], long, make([]byte, 32)}
	got := Blocks(l, row(6), given)
	if len(got) != 6 || len(got[0]) != 0 || len(got[1]) != 0 || !bytes.Equal(got[2], []byte{1}) || !bytes.Equal(got[3], long[:31]) || !bytes.Equal(got[4], long) || string(got[5][:2]) != "x\x00" {
		t.Error(got)
	}
	if len(Blocks(l, row(6), nil)) != 0 || len(Blocks(nil, row(6), nil)) != 0 || len(Blocks(l, nil, [][]byte{})) != 0 {
		t.Error("of no blocks")
	}
	many := Blocks(chain(64, 199), row(64), blocks(200))
	if !slices.EqualFunc(many, blocks(200), bytes.Equal) {
		t.Error("a block that no patch may be of")
	}
	for _, some := range [][]int{nil, {}, odd()} {
		if !slices.EqualFunc(Blocks(l, some, blocks(6)), blocks(6), bytes.Equal) || !slices.EqualFunc(Blocks(nil, row(6), blocks(6)), blocks(6), bytes.Equal) {
			t.Error("none", some)
		}
	}
}

// P6.1
func TestOverlaps(t *testing.T) {
	l := []api.Patch{
		{Block: 1, Off: 0, Data: "abcd"},
		{Block: 1, Off: 4, Data: "efgh"}, // stands side by side
		{Block: 2, Off: 0, Data: "abcd"}, // of another block
		{Block: 1, Off: 3, Data: "DE"},
		{Block: 1, Off: 20, Data: "z"}, // lies apart
		{Block: 1, Off: 0, Data: strings.Repeat("w", 32)},
		{Block: 2, Off: 3, Data: "d"},
		{Block: 1, Off: 3, Data: "DE"},
	}
	got := Overlaps(l)
	want := [][]int{nil, nil, nil, {0, 1}, nil, {0, 1, 3, 4}, {2}, {0, 1, 3, 5}}
	if len(got) != len(l) {
		t.Fatal(got)
	}
	for i, it := range got {
		if it.Patch != l[i] || !slices.Equal(it.Deps, want[i]) {
			t.Error(i, it)
		}
	}
	if !Right(got) {
		t.Error("not right")
	}
	for n := range 65 {
		many := slices.Repeat([]api.Patch{{Block: 95, Off: 31, Data: "x"}}, n)
		got := Overlaps(many)
		if len(got) != n {
			t.Fatal(n, len(got))
		}
		for i, it := range got {
			if it.Patch != many[i] || !slices.Equal(it.Deps, row(i)) {
				t.Error(n, i, it)
			}
		}
	}
}

// P6.1
func TestOverlapsOfPairs(t *testing.T) {
	for off := range api.BlockSize {
		for n := 1; n <= api.BlockSize-off; n++ {
			p := api.Patch{Block: 4, Off: off, Data: strings.Repeat("p", n)}
			for _, q := range []api.Patch{{Block: 4, Off: 10, Data: "qrs"}, {Block: 4, Off: 31, Data: "q"}, {Block: 5, Off: 10, Data: "qrs"}} {
				got := Overlaps([]api.Patch{p, q})
				if len(got) != 2 || len(got[0].Deps) != 0 || (len(got[1].Deps) == 1) != patch.Overlap(p, q) {
					t.Error(p, q, got)
				}
			}
		}
	}
}

// P6.1
func TestOverlapsOfWrongs(t *testing.T) {
	good := api.Patch{Block: 1, Data: "abc"}
	for _, p := range wrongPatches() {
		for _, l := range [][]api.Patch{{p}, {good, p}, {p, good}, {good, good, p, good}, append(slices.Repeat([]api.Patch{good}, 63), p)} {
			if len(Overlaps(l)) != 0 {
				t.Error(l)
			}
		}
	}
	for _, n := range []int{65, 66, 100000} {
		if len(Overlaps(slices.Repeat([]api.Patch{good}, n))) != 0 {
			t.Error(n)
		}
	}
	if len(Overlaps(nil)) != 0 || len(Overlaps([]api.Patch{})) != 0 {
		t.Error("of none")
	}
}

// P6.2, P6.3: what is handed in stays, spare room too; what is answered is the caller's.
func TestNothingIsShared(t *testing.T) {
	room := []int{0, 77, 0, 1, 77, 3, 1, 77}
	given := func() []api.Item {
		return []api.Item{item(1), item(2, room[0:1]...), {Patch: api.Patch{Block: 1, Data: "y"}, Deps: room[0:1]}, {Patch: api.Patch{Block: 3, Data: "z"}, Deps: room[2:4]}, item(1)}
	}
	l, some, was := given(), room[5:7], slices.Clone(room)
	whole := blocks(5)
	images := [][]byte{whole[0][:32:32], whole[1], whole[2][:7], whole[3], whole[1]} // one block twice
	stays := func(call string) {
		t.Helper()
		if !slices.Equal(room, was) || !slices.EqualFunc(l, given(), func(a, b api.Item) bool { return a.Patch == b.Patch && slices.Equal(a.Deps, b.Deps) }) || !slices.EqualFunc(whole, blocks(5), bytes.Equal) {
			t.Error(call, room, l, whole)
		}
	}
	lists := func(call string, ask func() [][]int) {
		t.Helper()
		got, want := ask(), ask()
		for n := range got {
			for i := range got[n] {
				got[n][i] = -5
			}
			_ = append(got[n], -6, -6, -6)
			if !same(got[n+1:], want[n+1:]) {
				t.Error(call, n, got)
			}
		}
		stays(call)
		if !same(ask(), want) {
			t.Error(call, "kept")
		}
	}
	Right(l)
	stays("Right")
	lists("Groups", func() [][]int { return Groups(l) })
	lists("Deps", func() [][]int { return Deps(l) })
	lists("Expand", func() [][]int { return [][]int{Expand(l, some), Expand(l, []int{0, 1, 2})} })
	got := Blocks(l, []int{1, 2, 3}, images)
	if got[1][0] != 'y' || got[4][0] != 32 || len(got[2]) != 7 {
		t.Error(got)
	}
	for n := range got {
		rest := Blocks(l, []int{1, 2, 3}, images)[n+1:]
		clear(got[n])
		_ = append(got[n], 9, 9, 9)
		stays("Blocks")
		if !slices.EqualFunc(got[n+1:], rest, bytes.Equal) {
			t.Error("Blocks", n, got)
		}
	}
}

// P6.1: the items' deps are of their own.
func TestOverlapsSharesNothing(t *testing.T) {
	l := slices.Repeat([]api.Patch{{Block: 1, Data: "abc"}}, 4)
	got := Overlaps(l)
	for i := range got {
		for n := range got[i].Deps {
			got[i].Deps[n] = -5
		}
		_ = append(got[i].Deps, -6, -6)
		got[i].Patch = api.Patch{}
		for m := i + 1; m < len(got); m++ {
			if !slices.Equal(got[m].Deps, row(m)) {
				t.Error(i, m, got)
			}
		}
	}
	for i, it := range Overlaps(l) {
		if it.Patch != l[i] || it.Patch.Data != "abc" || !slices.Equal(it.Deps, row(i)) {
			t.Error(i, it)
		}
	}
}
