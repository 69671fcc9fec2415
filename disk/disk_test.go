package disk

import (
	"math"
	"slices"
	"testing"

	"selvedge/api"
)

// full is a sector whose bytes are all v.
func full(v byte) Sector {
	var s Sector
	for i := range s {
		s[i] = v
	}
	return s
}

// some are n sectors, all different.
func some(n int) []Sector {
	l := make([]Sector, n)
	for i := range l {
		l[i] = full(byte(i + 1))
		l[i][31] = byte(200 - i)
	}
	return l
}

// write writes, and fails the test where that may not be.
func write(t *testing.T, d *Disk, i int, l ...Sector) {
	t.Helper()
	for _, s := range l {
		if e := d.Write(i, s); e != api.OK {
			t.Fatal("Write", i, e)
		}
	}
}

// lasts fails the test unless s lasts.
func lasts(t *testing.T, d *Disk, i int, s Sector) {
	t.Helper()
	if l, e := d.Lasting(i); e != api.OK || l != s {
		t.Error("Lasting", i, l, e, "not", s)
	}
}

// reads fails the test unless s is read.
func reads(t *testing.T, d *Disk, i int, s Sector) {
	t.Helper()
	if r, e := d.Read(i); e != api.OK || r != s {
		t.Error("Read", i, r, e, "not", s)
	}
}

// state is all that a disk tells.
type state struct {
	size     int
	read     []Sector
	lasting  []Sector
	versions []int
}

func stateOf(d *Disk) state {
	s := state{size: d.Size()}
	for i := range d.Size() {
		r, _ := d.Read(i)
		l, _ := d.Lasting(i)
		s.read = append(s.read, r)
		s.lasting = append(s.lasting, l)
		s.versions = append(s.versions, d.Versions(i))
	}
	return s
}

func (s state) same(o state) bool {
	return s.size == o.size && slices.Equal(s.read, o.read) && slices.Equal(s.lasting, o.lasting) && slices.Equal(s.versions, o.versions)
}

var wrong = []int{-1, -2, math.MinInt, math.MaxInt, 1 << 32, api.MaxBlocks, api.MaxBlocks + 1}

// P3.1
func TestNew(t *testing.T) {
	for _, n := range []int{1, 2, api.MinBlocks, api.MaxBlocks - 1, api.MaxBlocks} {
		d := New(n)
		if d == nil || d.Size() != n {
			t.Fatal(n, d)
		}
		for i := range n {
			lasts(t, d, i, Sector{})
			reads(t, d, i, Sector{})
			if d.Versions(i) != 0 {
				t.Error(n, i, d.Versions(i))
			}
		}
		if _, e := d.Read(n); e != api.ErrRange {
			t.Error(n, e)
		}
	}
	for _, n := range []int{0, -1, api.MaxBlocks + 1, math.MaxInt, math.MinInt} {
		if d := New(n); d != nil {
			t.Error(n, d.Size())
		}
	}
}

// P3.1
func TestLoad(t *testing.T) {
	for _, n := range []int{1, 2, 17, api.MaxBlocks} {
		l := some(n)
		d := Load(l)
		if d == nil || d.Size() != n {
			t.Fatal(n, d)
		}
		for i := range n {
			lasts(t, d, i, l[i])
			reads(t, d, i, l[i])
			if d.Versions(i) != 0 {
				t.Error(n, i, d.Versions(i))
			}
		}
	}
	for _, l := range [][]Sector{nil, {}, some(api.MaxBlocks + 1), make([]Sector, 5000)} {
		if d := Load(l); d != nil {
			t.Error(len(l), d.Size())
		}
	}
}

// P3.1: the list that was handed in stays, and is not kept.
func TestLoadKeepsNothing(t *testing.T) {
	room := some(8)
	l := room[:4]
	d := Load(l)
	write(t, d, 2, full(99))
	d.Flush()
	if !slices.Equal(room, some(8)) {
		t.Error("changed")
	}
	l[1] = full(77)
	lasts(t, d, 1, some(8)[1])
	lasts(t, d, 2, full(99))
}

// P3.1
func TestWriteAndRead(t *testing.T) {
	for _, n := range []int{1, api.MaxBlocks} {
		for _, i := range []int{0, n - 1} {
			d := Load(some(n))
			for v := range 5 {
				write(t, d, i, full(byte(100+v)))
				reads(t, d, i, full(byte(100+v)))
				lasts(t, d, i, some(n)[i])
				if d.Versions(i) != v+1 {
					t.Error(n, i, v, d.Versions(i))
				}
			}
			for j := range n {
				if j != i {
					reads(t, d, j, some(n)[j])
					if d.Versions(j) != 0 {
						t.Error(n, i, j, d.Versions(j))
					}
				}
			}
		}
	}
}

// P3.1: what is written again as it is, is one version more.
func TestWriteTheSame(t *testing.T) {
	d := New(2)
	write(t, d, 1, Sector{})
	if d.Versions(1) != 1 {
		t.Error(d.Versions(1))
	}
	write(t, d, 1, full(1), full(1), full(1), full(2), full(2), full(1), full(2), full(1))
	if d.Versions(1) != 9 {
		t.Error(d.Versions(1))
	}
	for v, want := range []byte{0, 0, 1, 1, 1, 2, 2, 1, 2, 1, 0} {
		f := d.Fork()
		f.Crash([]int{v})
		lasts(t, f, 1, full(want))
	}
}

// P3.1
func TestWrongBlocks(t *testing.T) {
	for _, n := range []int{1, 5, api.MaxBlocks} {
		d := Load(some(n))
		write(t, d, 0, full(9))
		before := stateOf(d)
		for _, i := range append([]int{n, n + 1}, wrong...) {
			if e := d.Write(i, full(3)); e != api.ErrRange {
				t.Error("Write", n, i, e)
			}
			if s, e := d.Read(i); e != api.ErrRange || s != (Sector{}) {
				t.Error("Read", n, i, s, e)
			}
			if s, e := d.Lasting(i); e != api.ErrRange || s != (Sector{}) {
				t.Error("Lasting", n, i, s, e)
			}
			if e := d.Spoil(i, true); e != api.ErrRange {
				t.Error("Spoil", n, i, e)
			}
			if v := d.Versions(i); v != 0 {
				t.Error("Versions", n, i, v)
			}
		}
		if !before.same(stateOf(d)) {
			t.Error("changed", n)
		}
	}
}

// P3.1
func TestFlush(t *testing.T) {
	d := Load(some(4))
	write(t, d, 0, full(50))
	write(t, d, 3, full(51), full(52), full(53))
	d.Spoil(3, true)
	if e := d.Flush(); e != api.OK {
		t.Error(e)
	}
	for i, want := range []Sector{full(50), some(4)[1], some(4)[2], full(53)} {
		lasts(t, d, i, want)
		reads(t, d, i, want)
		if d.Versions(i) != 0 {
			t.Error(i, d.Versions(i))
		}
	}
	before := stateOf(d)
	if e := d.Flush(); e != api.OK || !before.same(stateOf(d)) {
		t.Error("Flush of nothing", e)
	}
}

// P3.2: Crash picks nothing, some, versions that are not there; more numbers than blocks, or fewer.
func TestCrash(t *testing.T) {
	x, y, z := full(70), full(71), full(72)
	for _, c := range []struct {
		pick []int
		want []Sector // of the blocks 1, 2 and 5, 2 without versions
	}{
		{nil, []Sector{some(6)[1], some(6)[2], some(6)[5]}},
		{[]int{}, []Sector{some(6)[1], some(6)[2], some(6)[5]}},
		{[]int{0, 0}, []Sector{some(6)[1], some(6)[2], some(6)[5]}},
		{[]int{1}, []Sector{x, some(6)[2], some(6)[5]}},
		{[]int{2, 1}, []Sector{y, some(6)[2], z}},
		{[]int{0, 1}, []Sector{some(6)[1], some(6)[2], z}},
		{[]int{3, 2}, []Sector{some(6)[1], some(6)[2], some(6)[5]}},
		{[]int{-1, -1}, []Sector{some(6)[1], some(6)[2], some(6)[5]}},
		{[]int{math.MinInt, 1}, []Sector{some(6)[1], some(6)[2], z}},
		{[]int{math.MaxInt, math.MaxInt}, []Sector{some(6)[1], some(6)[2], some(6)[5]}},
		{[]int{2, 1, 1, 1, 1, 1, 1}, []Sector{y, some(6)[2], z}},
		{[]int{1, 0, 1, 1, 1, 1, 1}, []Sector{x, some(6)[2], some(6)[5]}},
	} {
		d := Load(some(6))
		write(t, d, 5, z)
		write(t, d, 1, x, y)
		pick := append(slices.Clone(c.pick), 9, 9)[:len(c.pick)]
		if e := d.Crash(pick); e != api.OK {
			t.Error(c.pick, e)
		}
		if !slices.Equal(pick, c.pick) || pick[:len(pick)+2][len(pick)] != 9 {
			t.Error("changed", c.pick, pick)
		}
		for k, i := range []int{1, 2, 5} {
			lasts(t, d, i, c.want[k])
			reads(t, d, i, c.want[k])
		}
		for i := range 6 {
			if d.Versions(i) != 0 {
				t.Error(c.pick, i, d.Versions(i))
			}
		}
	}
}

// P3.2: the blocks rise, in whatever order they were written.
func TestCrashOfAllBlocks(t *testing.T) {
	for round := range 4 {
		d := New(api.MaxBlocks)
		for k := range api.MaxBlocks {
			i := (k*35 + round) % api.MaxBlocks
			write(t, d, i, full(byte(i)), full(byte(i+100)))
		}
		pick := make([]int, api.MaxBlocks)
		for i := range pick {
			pick[i] = (i + round) % 3
		}
		d.Crash(pick)
		for i := range pick {
			lasts(t, d, i, []Sector{{}, full(byte(i)), full(byte(i + 100))}[pick[i]])
		}
	}
}

// P3.2, P3.3, P3.4
func TestCrashLeavesOneOfTheVersions(t *testing.T) {
	versions := []Sector{full(20), full(21), full(22)}
	for v := -2; v < 6; v++ {
		for w := -2; w < 6; w++ {
			d := Load(some(3))
			for _, s := range versions {
				write(t, d, 0, s)
				write(t, d, 2, s)
				lasts(t, d, 0, some(3)[0])
				lasts(t, d, 2, some(3)[2])
			}
			d.Crash([]int{v, w})
			for k, i := range []int{0, 2} {
				if s, _ := d.Lasting(i); s != some(3)[i] && !slices.Contains(versions, s) {
					t.Error(v, w, i, s)
				}
				want := some(3)[i]
				if n := []int{v, w}[k]; n >= 1 && n <= 3 {
					want = versions[n-1]
				}
				lasts(t, d, i, want)
			}
			lasts(t, d, 1, some(3)[1])
		}
	}
}

// P3.2: behind a Crash new versions begin from 1 on.
func TestCrashAndOn(t *testing.T) {
	d := New(2)
	write(t, d, 0, full(1), full(2))
	d.Crash([]int{1})
	write(t, d, 1, full(3))
	write(t, d, 0, full(4))
	if d.Versions(0) != 1 || d.Versions(1) != 1 {
		t.Error(d.Versions(0), d.Versions(1))
	}
	lasts(t, d, 0, full(1))
	d.Crash([]int{2, 1})
	lasts(t, d, 0, full(1))
	lasts(t, d, 1, full(3))
}

// P3.2
func TestSpoil(t *testing.T) {
	d := Load(some(3))
	write(t, d, 1, full(60))
	if e := d.Spoil(1, true); e != api.OK {
		t.Error(e)
	}
	before := stateOf(d)
	if e := d.Write(1, full(61)); e != api.ErrIO || !before.same(stateOf(d)) {
		t.Error("bad", e)
	}
	reads(t, d, 1, full(60))
	lasts(t, d, 1, some(3)[1])
	write(t, d, 0, full(62))
	write(t, d, 2, full(63))
	d.Spoil(1, true)
	if e := d.Write(1, full(61)); e != api.ErrIO {
		t.Error("bad twice", e)
	}
	d.Flush()
	lasts(t, d, 1, full(60))
	d.Crash(nil)
	if e := d.Write(1, full(61)); e != api.ErrIO {
		t.Error("bad for good", e)
	}
	if e := d.Spoil(1, false); e != api.OK {
		t.Error(e)
	}
	write(t, d, 1, full(64))
	reads(t, d, 1, full(64))
	if e := d.Spoil(2, false); e != api.OK {
		t.Error("good already", e)
	}
	write(t, d, 2, full(65))
}

// P3.2
func TestFork(t *testing.T) {
	d := Load(some(4))
	write(t, d, 1, full(30), full(31))
	d.Spoil(2, true)
	f := d.Fork()
	if f == nil || f == d || !stateOf(f).same(stateOf(d)) {
		t.Fatal("not the same")
	}
	if e := f.Write(2, full(1)); e != api.ErrIO {
		t.Error("the fork's bad block is good", e)
	}
	for _, pair := range [][2]*Disk{{d, f}, {f.Fork(), d}, {d, d.Fork()}} {
		one, other := pair[0].Fork(), pair[1]
		before := stateOf(other)
		for _, change := range []func(){
			func() { one.Write(1, full(31)) }, func() { one.Write(1, full(32)) }, func() { one.Write(3, full(33)) },
			func() { one.Spoil(0, true); one.Spoil(2, false); one.Write(2, full(34)) },
			func() { one.Fork().Flush() },
			func() { one.Crash([]int{2}) }, func() { one.Write(0, full(35)) }, func() { one.Flush() },
		} {
			change()
			if !before.same(stateOf(other)) {
				t.Error("what became of the one changed the other one")
			}
		}
	}
}

// P4 of the rules: versions that two forks have behind the same ones stay their own.
func TestForksWriteOn(t *testing.T) {
	for n := range 9 {
		d := New(1)
		for v := range n {
			write(t, d, 0, full(byte(v)))
		}
		a, b := d.Fork(), d.Fork()
		write(t, a, 0, full(101))
		write(t, b, 0, full(102))
		write(t, d, 0, full(103))
		for i, x := range []*Disk{a, b, d} {
			if x.Versions(0) != n+1 {
				t.Error(n, i, x.Versions(0))
			}
			x.Crash([]int{n + 1})
			lasts(t, x, 0, full(byte(101+i)))
		}
	}
}

// P3.1, P3.2: a block that is bad is bad in its disk alone.
func TestForkSpoils(t *testing.T) {
	d := New(3)
	f := d.Fork()
	d.Spoil(0, true)
	f.Spoil(1, true)
	for i, want := range []api.Errno{api.ErrIO, api.OK, api.OK} {
		if e := d.Write(i, full(1)); e != want {
			t.Error(i, e)
		}
	}
	for i, want := range []api.Errno{api.OK, api.ErrIO, api.OK} {
		if e := f.Write(i, full(1)); e != want {
			t.Error(i, e)
		}
	}
}

// P3.1, P3.2
func TestNil(t *testing.T) {
	var d *Disk
	for _, i := range append([]int{0, 1}, wrong...) {
		if e := d.Write(i, full(1)); e != api.ErrNil {
			t.Error("Write", e)
		}
		if s, e := d.Read(i); e != api.ErrNil || s != (Sector{}) {
			t.Error("Read", s, e)
		}
		if s, e := d.Lasting(i); e != api.ErrNil || s != (Sector{}) {
			t.Error("Lasting", s, e)
		}
		if e := d.Spoil(i, true); e != api.ErrNil {
			t.Error("Spoil", e)
		}
		if v := d.Versions(i); v != 0 {
			t.Error("Versions", v)
		}
		if e := d.Crash([]int{i}); e != api.ErrNil {
			t.Error("Crash", e)
		}
	}
	if e := d.Flush(); e != api.ErrNil {
		t.Error("Flush", e)
	}
	if e := d.Crash(nil); e != api.ErrNil {
		t.Error("Crash", e)
	}
	if d.Size() != 0 || d.Fork() != nil {
		t.Error(d.Size(), d.Fork())
	}
}

// The chapter's example.
func TestExample(t *testing.T) {
	d := New(1)
	write(t, d, 0, full('x'), full('y'))
	d.Crash([]int{1})
	lasts(t, d, 0, full('x'))
}
