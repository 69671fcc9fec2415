package patch

import (
	"bytes"
	"math"
	"slices"
	"strings"
	"testing"

	"selvedge/api"
)

// letters are a block's bytes, all different.
const letters = "abcdefghijklmnopqrstuvwxyz012345"

// row is the text of n bytes, from an upper letter on.
func row(from byte, n int) string {
	var b []byte
	for i := range n {
		b = append(b, from+byte(i%20))
	}
	return string(b)
}

// rights are all places of patches of block 3, with bytes of their own.
func rights() []api.Patch {
	var l []api.Patch
	for off := range api.BlockSize {
		for n := 1; n <= api.BlockSize-off; n++ {
			l = append(l, api.Patch{Block: 3, Off: off, Data: row('A'+byte((off+n)%7), n)})
		}
	}
	return l
}

// wrongs are patches that are not right.
func wrongs() []api.Patch {
	whole := strings.Repeat("w", api.BlockSize)
	return []api.Patch{
		{}, {Block: -1, Data: "x"}, {Block: api.MaxBlocks, Data: "x"}, {Block: math.MaxInt, Data: "x"}, {Block: math.MinInt, Data: "x"},
		{Off: -1, Data: "x"}, {Off: -1, Data: "xy"}, {Off: api.BlockSize, Data: "x"}, {Off: math.MaxInt, Data: "x"}, {Off: math.MinInt, Data: "x"},
		{Off: math.MaxInt, Data: ""}, {Off: api.BlockSize, Data: ""}, {Off: 31, Data: ""}, {Off: 31, Data: "xy"}, {Off: 1, Data: whole}, {Off: 0, Data: whole + "x"},
		{Off: 16, Data: whole[:17]}, {Off: -1, Data: whole}, {Off: 0, Data: strings.Repeat("z", 5000)}, {Block: 3, Off: 40, Data: ""},
	}
}

// sizes are blocks with too few bytes, or too many.
func sizes() [][]byte {
	return [][]byte{nil, {}, []byte("x"), []byte(letters[:31]), []byte(letters + "6"), make([]byte, 64), make([]byte, 1000)}
}

// put is what a patch does, byte by byte.
func put(b string, p api.Patch) string {
	return b[:p.Off] + p.Data + b[p.Off+len(p.Data):]
}

// apart are a block's bytes with spare room behind them, that tells whether it was written.
func apart(b string) []byte {
	room := append([]byte(b), "spare room"...)
	return room[:len(b)]
}

// stays fails the test unless b and its spare room are as apart made them.
func stays(t *testing.T, b []byte, was string) {
	t.Helper()
	if string(b[:len(b)+10]) != was+"spare room" {
		t.Error("changed", b)
	}
}

// P4.1
func TestRight(t *testing.T) {
	for _, p := range rights() {
		for _, block := range []int{0, 3, api.MaxBlocks - 1} {
			p.Block = block
			if !Right(p) {
				t.Error(p)
			}
		}
		for _, block := range []int{-1, api.MaxBlocks, math.MaxInt, math.MinInt} {
			p.Block = block
			if Right(p) {
				t.Error(p)
			}
		}
	}
	for off := range api.BlockSize {
		if Right(api.Patch{Off: off}) || Right(api.Patch{Off: off, Data: row('A', api.BlockSize-off+1)}) {
			t.Error(off)
		}
	}
	for _, p := range wrongs() {
		if Right(p) {
			t.Error(p)
		}
	}
}

// P4.1, P4.3
func TestApplyAndUndo(t *testing.T) {
	for _, p := range rights() {
		b := apart(letters)
		c, e := Apply(b, p)
		if e != api.OK || string(c) != put(letters, p) {
			t.Error("Apply", p, c, e)
		}
		u, e := Undo(b, p)
		if e != api.OK || u != (api.Patch{Block: p.Block, Off: p.Off, Data: letters[p.Off : p.Off+len(p.Data)]}) {
			t.Error("Undo", p, u, e)
		}
		if back, e := Apply(c, u); e != api.OK || string(back) != letters {
			t.Error("Apply of Undo", p, back, e)
		}
		stays(t, b, letters)
		clear(c)
		stays(t, b, letters)
	}
}

// P4.1: the answer shares nothing with the block, where nothing is changed neither.
func TestApplyAnswersItsOwn(t *testing.T) {
	b := apart(letters)
	same, _ := Apply(b, api.Patch{Data: letters})
	all, _ := All(b, nil)
	clear(same)
	clear(all)
	stays(t, b, letters)
	all, _ = All(b, nil)
	u, _ := Undo(all, api.Patch{Off: 2, Data: "xyz"})
	joined, _ := Apply(all, u)
	clear(all)
	if u.Data != "cde" || string(joined) != letters {
		t.Error(u, joined)
	}
}

// P4.1
func TestIdle(t *testing.T) {
	for _, p := range rights() {
		if Idle([]byte(letters), p) {
			t.Error(p)
		}
		if !Idle([]byte(put(letters, p)), p) {
			t.Error(p, "behind itself")
		}
		for at := range p.Data {
			other := []byte(put(letters, p))
			other[p.Off+at] ^= 0x80
			if Idle(other, p) {
				t.Error(p, at)
			}
		}
		for at := range api.BlockSize {
			if at < p.Off || at >= p.Off+len(p.Data) {
				other := []byte(put(letters, p))
				other[at] ^= 1
				if !Idle(other, p) {
					t.Error(p, at, "lies beside")
				}
			}
		}
	}
	b := apart(letters)
	if !Idle(b, api.Patch{Off: 31, Data: "5"}) || Idle(b, api.Patch{Off: 31, Data: "6"}) {
		t.Error("the last byte")
	}
	stays(t, b, letters)
}

// P4.1
func TestWrongPatches(t *testing.T) {
	for _, p := range wrongs() {
		b := apart(letters)
		if c, e := Apply(b, p); e != api.ErrForm || len(c) != 0 {
			t.Error("Apply", p, c, e)
		}
		if u, e := Undo(b, p); e != api.ErrForm || u != (api.Patch{}) {
			t.Error("Undo", p, u, e)
		}
		if Idle(b, p) {
			t.Error("Idle", p)
		}
		good := api.Patch{Block: 1, Off: 1, Data: "G"}
		for _, l := range [][]api.Patch{{p}, {good, p}, {p, good}, {good, good, p, good}} {
			if c, e := All(b, l); e != api.ErrForm || len(c) != 0 {
				t.Error("All", l, c, e)
			}
		}
		stays(t, b, letters)
	}
}

// P4.1
func TestWrongSizes(t *testing.T) {
	good := api.Patch{Off: 0, Data: "G"}
	for _, b := range sizes() {
		was := bytes.Clone(b)
		if c, e := Apply(b, good); e != api.ErrForm || len(c) != 0 {
			t.Error("Apply", len(b), c, e)
		}
		if u, e := Undo(b, good); e != api.ErrForm || u != (api.Patch{}) {
			t.Error("Undo", len(b), u, e)
		}
		if Idle(b, good) || Idle(b, api.Patch{Off: 0, Data: "\x00"}) {
			t.Error("Idle", len(b))
		}
		for _, l := range [][]api.Patch{nil, {}, {good}} {
			if c, e := All(b, l); e != api.ErrForm || len(c) != 0 {
				t.Error("All", len(b), c, e)
			}
		}
		if !bytes.Equal(b, was) {
			t.Error("changed")
		}
	}
}

// P4.1: one behind the other, whatever their Block.
func TestAll(t *testing.T) {
	l := []api.Patch{{Block: 5, Off: 0, Data: "XYZ"}, {Block: 95, Off: 31, Data: "!"}, {Block: 0, Off: 1, Data: "--"}, {Block: 5, Off: 2, Data: "W"}, {Block: 7, Off: 2, Data: "V"}}
	want := letters
	for n := range len(l) + 1 {
		handed := slices.Clone(l)
		b := apart(letters)
		c, e := All(b, handed[:n])
		if e != api.OK || string(c) != want {
			t.Error(n, string(c), e)
		}
		if !slices.Equal(handed, l) {
			t.Error("changed", handed)
		}
		stays(t, b, letters)
		if n < len(l) {
			want = put(want, l[n])
		}
	}
	if want != "X-V"+letters[3:31]+"!" {
		t.Error(want)
	}
	many := slices.Repeat([]api.Patch{{Off: 4, Data: "q"}, {Off: 4, Data: "r"}}, 5000)
	if c, e := All([]byte(letters), many); e != api.OK || string(c) != letters[:4]+"r"+letters[5:] {
		t.Error(string(c), e)
	}
}

// P4.2, P4.5: all pairs of some places; a byte that a patch writes is looked for one by one.
func TestOverlapAndJoin(t *testing.T) {
	places := [][2]int{{0, 1}, {0, 2}, {1, 1}, {1, 3}, {2, 2}, {3, 1}, {4, 4}, {5, 2}, {0, 32}, {31, 1}, {30, 1}, {30, 2}, {16, 16}, {0, 16}, {7, 20}}
	for _, x := range places {
		for _, y := range places {
			a := api.Patch{Block: 9, Off: x[0], Data: row('A', x[1])}
			b := api.Patch{Block: 9, Off: y[0], Data: row('a', y[1])}
			var ofA, ofB [api.BlockSize + 1]bool
			for i := range x[1] {
				ofA[x[0]+i] = true
			}
			for i := range y[1] {
				ofB[y[0]+i] = true
			}
			both, beside := false, false
			for i := range api.BlockSize {
				both = both || ofA[i] && ofB[i]
				beside = beside || ofA[i] && ofB[i+1] || ofB[i] && ofA[i+1]
			}
			if Overlap(a, b) != both || Overlap(b, a) != both {
				t.Error("Overlap", x, y, both)
			}
			p, ok := Join(a, b)
			if ok != (both || beside) {
				t.Error("Join", x, y, ok)
			}
			if !ok {
				if p != (api.Patch{}) {
					t.Error("Join", x, y, p)
				}
				continue
			}
			if p.Block != 9 || p.Off != min(x[0], y[0]) || p.Off+len(p.Data) != max(x[0]+x[1], y[0]+y[1]) {
				t.Error("Join", x, y, p)
			}
			if c, e := Apply([]byte(letters), p); e != api.OK || string(c) != put(put(letters, a), b) {
				t.Error("Join", x, y, p, e)
			}
		}
	}
}

// P4.2: of other blocks, or not right.
func TestOverlapAndJoinOfWrongs(t *testing.T) {
	whole := api.Patch{Block: 3, Off: 0, Data: letters}
	no := func(a, b api.Patch) {
		t.Helper()
		if Overlap(a, b) || Overlap(b, a) {
			t.Error("Overlap", a, b)
		}
		for _, pair := range [][2]api.Patch{{a, b}, {b, a}} {
			if p, ok := Join(pair[0], pair[1]); ok || p != (api.Patch{}) {
				t.Error("Join", a, b, p)
			}
		}
	}
	for _, block := range []int{0, 2, 4, api.MaxBlocks - 1} {
		no(whole, api.Patch{Block: block, Off: 0, Data: letters})
	}
	for _, p := range wrongs() {
		no(p, p)
		no(p, api.Patch{Block: p.Block, Data: letters})
		p.Block = 3
		if !Right(p) {
			no(whole, p)
			no(p, p)
		}
	}
}

// P4.2, P4.4
func TestDiff(t *testing.T) {
	for _, c := range []struct {
		b    string
		want []api.Patch
	}{
		{letters, nil},
		{"A" + letters[1:], []api.Patch{{Off: 0, Data: "A"}}},
		{letters[:31] + "!", []api.Patch{{Off: 31, Data: "!"}}},
		{"AB" + letters[2:30] + "YZ", []api.Patch{{Off: 0, Data: "AB"}, {Off: 30, Data: "YZ"}}},
		{"AbC" + letters[3:], []api.Patch{{Off: 0, Data: "A"}, {Off: 2, Data: "C"}}},
		{"a" + letters[:31], []api.Patch{{Off: 1, Data: letters[:31]}}},
		{strings.ToUpper(letters[:26]) + "......", []api.Patch{{Off: 0, Data: strings.ToUpper(letters[:26]) + "......"}}},
	} {
		for _, block := range []int{0, 7, api.MaxBlocks - 1} {
			for i := range c.want {
				c.want[i].Block = block
			}
			a, b := apart(letters), apart(c.b)
			l := Diff(block, a, b)
			if !slices.Equal(l, c.want) {
				t.Error(block, c.b, l)
			}
			if d, e := All(a, l); e != api.OK || string(d) != c.b {
				t.Error("All of Diff", block, c.b, d, e)
			}
			stays(t, a, letters)
			stays(t, b, c.b)
		}
	}
}

// P4.2, P4.4: rows of all kinds.
func TestDiffOfManyBlocks(t *testing.T) {
	for seed := uint32(1); seed < 3000; seed++ {
		bits := seed * 2654435761
		a, b := []byte(letters), []byte(letters)
		var want []api.Patch
		for at := range b {
			if bits>>at&1 == 1 {
				b[at] ^= byte(1 << (seed % 8))
				if n := len(want); n > 0 && want[n-1].Off+len(want[n-1].Data) == at {
					want[n-1].Data += string(b[at : at+1])
				} else {
					want = append(want, api.Patch{Block: 4, Off: at, Data: string(b[at : at+1])})
				}
			}
		}
		l := Diff(4, a, b)
		if !slices.Equal(l, want) {
			t.Fatal(seed, l, want)
		}
		if c, e := All(a, l); e != api.OK || !bytes.Equal(c, b) {
			t.Fatal(seed, c, e)
		}
	}
}

// P4.2
func TestDiffOfWrongs(t *testing.T) {
	other := []byte(strings.ToUpper(letters))
	for _, block := range []int{-1, api.MaxBlocks, math.MaxInt, math.MinInt} {
		if l := Diff(block, []byte(letters), other); len(l) != 0 {
			t.Error(block, l)
		}
	}
	for _, b := range sizes() {
		if l := Diff(0, b, other); len(l) != 0 {
			t.Error(len(b), l)
		}
		if l := Diff(0, other, b); len(l) != 0 {
			t.Error(len(b), l)
		}
		if l := Diff(0, b, b); len(l) != 0 {
			t.Error(len(b), l)
		}
		if l := Diff(0, b, make([]byte, len(b))); len(l) != 0 {
			t.Error(len(b), l)
		}
	}
}

// The chapter's example.
func TestExample(t *testing.T) {
	if p, ok := Join(api.Patch{Off: 0, Data: "ab"}, api.Patch{Off: 1, Data: "xy"}); !ok || p != (api.Patch{Off: 0, Data: "axy"}) {
		t.Error(p, ok)
	}
}
