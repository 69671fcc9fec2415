package bitset

import (
	"bytes"
	"math"
	"slices"
	"testing"

	"selvedge/api"
)

// sets are bytes of many kinds, from none to 64.
func sets() [][]byte {
	all := [][]byte{nil, {}, {0}, {255}, {6}, {128, 1}, {255, 255, 255}, {0, 0, 0, 1}, {128}, {1}, {0x81, 0x7e, 0x81}, {0xf0, 0xff, 0x0f, 0, 0xaa}}
	for v := range 256 {
		all = append(all, []byte{byte(v), byte(v * 37), byte(255 - v)})
	}
	return append(all, make([]byte, 64), bytes.Repeat([]byte{255}, 64), bytes.Repeat([]byte{0x80, 0x01}, 32))
}

// plainly are b's bits, one by one, as the chapter's words say.
func plainly(b []byte) []bool {
	var l []bool
	for _, v := range b {
		for range 8 {
			l = append(l, v%2 == 1)
			v /= 2
		}
	}
	return l
}

var wild = []int{-1, -7, -8, -9, math.MinInt, math.MinInt + 7, math.MaxInt, math.MaxInt - 7, 1 << 35}

// P2.1
func TestGet(t *testing.T) {
	for _, b := range sets() {
		for i, on := range plainly(b) {
			if Get(b, i) != on {
				t.Error(b, i)
			}
		}
		for _, i := range append([]int{len(b) * 8, len(b)*8 + 1, len(b)*8 + 7, len(b)*8 + 8}, wild...) {
			if Get(b, i) {
				t.Error(b, i)
			}
		}
	}
}

// P2.1, P2.4
func TestSet(t *testing.T) {
	for _, b := range sets() {
		for i := range len(b) * 8 {
			for _, on := range []bool{true, false} {
				want := plainly(b)
				want[i] = on
				c, e := Set(b, i, on)
				if e != api.OK || !slices.Equal(plainly(c), want) || Get(c, i) != on {
					t.Error(b, i, on, c, e)
				}
			}
		}
		for _, i := range append([]int{len(b) * 8, len(b)*8 + 7}, wild...) {
			for _, on := range []bool{true, false} {
				if c, e := Set(b, i, on); len(c) != 0 || e != api.ErrRange {
					t.Error(b, i, on, c, e)
				}
			}
		}
	}
}

// P2.1
func TestCountAndList(t *testing.T) {
	for _, b := range sets() {
		var want []int
		for i, on := range plainly(b) {
			if on {
				want = append(want, i)
			}
		}
		if n := Count(b); n != len(want) {
			t.Error("Count", b, n)
		}
		if l := List(b); !slices.Equal(l, want) {
			t.Error("List", b, l)
		}
	}
}

// P2.1
func TestFirst(t *testing.T) {
	for _, b := range [][]byte{nil, {}, {0}, {255}, {7, 0}, {255, 255, 3}, {255, 127}, {254}, {0x55, 0xff, 0xfe}} {
		bits := plainly(b)
		for from := -3; from < len(bits)+3; from++ {
			for to := -3; to < len(bits)+3; to++ {
				want, found := 0, false
				for i, on := range bits {
					if !found && !on && from <= i && i < to {
						want, found = i, true
					}
				}
				if n, ok := First(b, from, to); n != want || ok != found {
					t.Error(b, from, to, n, ok)
				}
			}
		}
	}
}

// P2.1
func TestFirstFarOff(t *testing.T) {
	full := []byte{255, 255}
	for _, b := range [][]byte{nil, full, {0, 0}} {
		for _, x := range [][2]int{{16, math.MaxInt}, {math.MaxInt, math.MaxInt}, {math.MaxInt - 1, math.MaxInt}, {0, math.MinInt}, {math.MinInt, math.MinInt}, {math.MaxInt, math.MinInt}, {0, 0}, {9, 9}, {math.MinInt, 0}} {
			if n, ok := First(b, x[0], x[1]); n != 0 || ok {
				t.Error(b, x, n, ok)
			}
		}
	}
	if n, ok := First(full, math.MinInt, math.MaxInt); n != 0 || ok {
		t.Error(n, ok)
	}
	if n, ok := First([]byte{255, 127}, math.MinInt, math.MaxInt); n != 15 || !ok {
		t.Error(n, ok)
	}
	if n, ok := First([]byte{0}, math.MinInt, math.MaxInt); n != 0 || !ok {
		t.Error(n, ok)
	}
}

// P2.1
func TestRuns(t *testing.T) {
	for _, x := range []struct {
		b    []byte
		rows [][2]int
	}{
		{nil, nil},
		{[]byte{0, 0}, nil},
		{[]byte{6}, [][2]int{{1, 2}}},
		{[]byte{1}, [][2]int{{0, 1}}},
		{[]byte{128}, [][2]int{{7, 1}}},
		{[]byte{128, 1}, [][2]int{{7, 2}}},
		{[]byte{255, 255, 255}, [][2]int{{0, 24}}},
		{[]byte{6, 2}, [][2]int{{1, 2}, {9, 1}}},
		{[]byte{0x55}, [][2]int{{0, 1}, {2, 1}, {4, 1}, {6, 1}}},
		{[]byte{0xc0, 0xff, 0x81, 0x80}, [][2]int{{6, 11}, {23, 1}, {31, 1}}},
	} {
		if rows := Runs(x.b); !slices.Equal(rows, x.rows) {
			t.Error(x, rows)
		}
	}
	for _, b := range sets() {
		bits := make([]bool, len(b)*8)
		behind := -1
		for _, row := range Runs(b) {
			if row[0] <= behind || row[1] < 1 {
				t.Error("rows that touch, or fall", b, Runs(b))
			}
			behind = row[0] + row[1]
			for i := row[0]; i < behind; i++ {
				bits[i] = true
			}
		}
		if !slices.Equal(bits, plainly(b)) {
			t.Error(b, Runs(b))
		}
	}
}

// P2.2, P2.3
func TestMake(t *testing.T) {
	for _, b := range sets() {
		l := List(b)
		if c, e := Make(len(b), l...); e != api.OK || !bytes.Equal(c, b) {
			t.Error(b, c, e)
		}
		slices.Reverse(l)
		if c, e := Make(len(b), append(l, l...)...); e != api.OK || !bytes.Equal(c, b) {
			t.Error("fallen, twice", b, c, e)
		}
	}
	for _, size := range []int{0, 1, 63, 64} {
		if c, e := Make(size); e != api.OK || len(c) != size || Count(c) != 0 {
			t.Error(size, c, e)
		}
	}
	if c, e := Make(64, 0, 511); e != api.OK || len(c) != 64 || c[0] != 1 || c[63] != 128 || Count(c) != 2 {
		t.Error(c, e)
	}
}

// P2.2
func TestMakeOfWrongNumbers(t *testing.T) {
	fails := func(size int, l ...int) {
		t.Helper()
		if c, e := Make(size, l...); len(c) != 0 || e != api.ErrRange {
			t.Error(size, l, c, e)
		}
	}
	for _, size := range append([]int{65, 128}, wild...) {
		fails(size)
		fails(size, 0)
	}
	for _, size := range []int{0, 1, 2, 64} {
		for _, i := range append([]int{size * 8, size*8 + 7}, wild...) {
			fails(size, i)
			if size > 0 {
				fails(size, 0, i)
				fails(size, i, 0)
			}
		}
	}
}

// P2.2
func TestWithout(t *testing.T) {
	all := sets()
	for n, a := range all {
		for _, b := range [][]byte{nil, {}, {255}, {2}, a, all[n*7%len(all)], all[len(all)-1]} {
			has := plainly(b)
			var want []int
			for i, on := range plainly(a) {
				if on && (i >= len(has) || !has[i]) {
					want = append(want, i)
				}
			}
			if l := Without(a, b); !slices.Equal(l, want) {
				t.Error(a, b, l)
			}
		}
	}
}

// A walk that is broken off must not go on.
func TestOnesCanBeBrokenOff(t *testing.T) {
	var l []int
	for i := range ones([]byte{0x0c, 0xff}) {
		l = append(l, i)
		if i == 8 {
			break
		}
	}
	if !slices.Equal(l, []int{2, 3, 8}) {
		t.Error(l)
	}
}

// P3
func TestWhatIsHandedInStays(t *testing.T) {
	room := []byte{6, 2, 0x77, 0x77}
	b := room[:2]
	stays := func(name string) {
		t.Helper()
		if !bytes.Equal(room, []byte{6, 2, 0x77, 0x77}) {
			t.Error(name, room)
		}
	}
	for i := -1; i <= 32; i++ {
		for _, on := range []bool{true, false} {
			c, _ := Set(b, i, on)
			stays("Set")
			clear(c[:cap(c)])
			stays("what Set answered")
			Get(b, i)
			First(b, i, 40)
		}
	}
	Count(b)
	Runs(b)
	List(b)
	Without(b, b[:1])
	Without(b[:1], b)
	stays("the others")
	numbers := []int{1, 2, 9, -77, -77}
	Make(2, numbers[:3]...)
	if !slices.Equal(numbers, []int{1, 2, 9, -77, -77}) {
		t.Error("Make", numbers)
	}
}

// P3, P6
func TestWhatIsAnsweredIsTheCallers(t *testing.T) {
	b := []byte{6, 2}
	set, _ := Set(b, 0, true)
	made, _ := Make(2, 1, 2, 9)
	rows, l, rest := Runs(b), List(b), Without(b, nil)
	clear(rows)
	clear(l)
	set[0], made[0] = 0, 0
	again, _ := Set(b, 0, true)
	remade, _ := Make(2, 1, 2, 9)
	if !bytes.Equal(b, []byte{6, 2}) || !bytes.Equal(again, []byte{7, 2}) || !bytes.Equal(remade, []byte{6, 2}) {
		t.Error(b, again, remade)
	}
	if !slices.Equal(rest, []int{1, 2, 9}) || !slices.Equal(List(b), rest) || !slices.Equal(Runs(b), [][2]int{{1, 2}, {9, 1}}) {
		t.Error(rest, List(b), Runs(b))
	}
}
