package fd

import (
	"bytes"
	"math"
	"slices"
	"strconv"
	"strings"
	"testing"

	"selvedge/api"
	"selvedge/image"
	"selvedge/stitch"
)

const both = api.Reading | api.Writing

// far are numbers of no descriptor.
var far = []int{-1, -2, 12, 13, math.MinInt, math.MaxInt, 1 << 32}

// made is a new table over a new system, on which all of these operations were done.
func made(t *testing.T, l ...api.Op) *Table {
	t.Helper()
	tab := New(stitch.New(96))
	if tab == nil {
		t.Fatal("New")
	}
	done(t, tab, l...)
	return tab
}

// create, write and so on are operations.
func create(path string) api.Op          { return api.Op{Kind: api.Create, Path: path} }
func mkdir(path string) api.Op           { return api.Op{Kind: api.Mkdir, Path: path} }
func unlink(path string) api.Op          { return api.Op{Kind: api.Unlink, Path: path} }
func link(path, other string) api.Op     { return api.Op{Kind: api.Link, Path: path, Other: other} }
func write(path, data string) api.Op     { return api.Op{Kind: api.Write, Path: path, Data: data} }
func filled(letter string, n int) string { return strings.Repeat(letter, n) }

// done fails the test unless all of these operations of the system are OK.
func done(t *testing.T, tab *Table, l ...api.Op) {
	t.Helper()
	for _, o := range l {
		if e := tab.System().Do(o); e != api.OK {
			t.Fatal(o, "has", e)
		}
	}
}

// opens fails the test unless a path is opened, with that number.
func opens(t *testing.T, tab *Table, path string, flags, want int) {
	t.Helper()
	if n, e := tab.Open(path, flags); n != want || e != api.OK {
		t.Fatal("Open", path, flags, "answers", n, e, "not", want)
	}
}

// wont fails the test unless Open has that error, and changes nothing.
func wont(t *testing.T, tab *Table, path string, flags int, want api.Errno) {
	t.Helper()
	unchanged(t, tab, func() {
		if n, e := tab.Open(path, flags); n != 0 || e != want {
			t.Error("Open", path, flags, "answers", n, e, "not", want)
		}
	})
}

// unchanged fails the test if the call changes something.
func unchanged(t *testing.T, tab *Table, call func()) {
	t.Helper()
	was := told(tab)
	call()
	if is := told(tab); !was.same(is) {
		t.Error("changed", was.stats, is.stats)
	}
}

// state is all that a table and its system tell.
type state struct {
	img     [][]byte
	waiting int
	opened  []int
	stats   []api.Stat
}

func told(tab *Table) state {
	s := state{img: tab.System().Image(), waiting: tab.System().Waiting(), opened: tab.Opened()}
	for _, n := range s.opened {
		st, _ := tab.Stat(n)
		s.stats = append(s.stats, st)
	}
	return s
}

func (s state) same(o state) bool {
	return slices.EqualFunc(s.img, o.img, bytes.Equal) && s.waiting == o.waiting && slices.Equal(s.opened, o.opened) && slices.Equal(s.stats, o.stats)
}

// reads, writes, seeks fail the test unless that is the answer.
func reads(t *testing.T, tab *Table, n, many int, want string) {
	t.Helper()
	if data, e := tab.Read(n, many); data != want || e != api.OK {
		t.Errorf("Read %d %d answers %q %v not %q", n, many, data, e, want)
	}
}

func writes(t *testing.T, tab *Table, n int, data string, want int) {
	t.Helper()
	if many, e := tab.Write(n, data); many != want || e != api.OK {
		t.Errorf("Write %d %q answers %d %v not %d", n, data, many, e, want)
	}
}

func seeks(t *testing.T, tab *Table, n, off, whence, want int) {
	t.Helper()
	if pos, e := tab.Seek(n, off, whence); pos != want || e != api.OK {
		t.Error("Seek", n, off, whence, "answers", pos, e, "not", want)
	}
}

// stands fails the test unless that is what Stat tells.
func stands(t *testing.T, tab *Table, n int, want api.Stat) {
	t.Helper()
	if st, e := tab.Stat(n); st != want || e != api.OK {
		t.Error("Stat", n, "answers", st, e, "not", want)
	}
}

// holds fails the test unless a file of the system has that data.
func holds(t *testing.T, tab *Table, path, want string) {
	t.Helper()
	if data, e := tab.System().Read(path); data != want || e != api.OK {
		t.Errorf("%s has %q %v not %q", path, data, e, want)
	}
}

// areOpen fails the test unless these are open.
func areOpen(t *testing.T, tab *Table, want ...int) {
	t.Helper()
	if !slices.Equal(tab.Opened(), want) {
		t.Error("Opened", tab.Opened(), "not", want)
	}
}

// full lets so many patches wait that nothing more can be done; path is a file with a byte.
func full(t *testing.T, tab *Table, path string) {
	t.Helper()
	if e := tab.System().Sync(); e != api.OK {
		t.Fatal(e)
	}
	for range api.MaxPending {
		done(t, tab, write(path, "x"))
	}
}

// P20.1
func TestNew(t *testing.T) {
	if New(nil) != nil {
		t.Error("of nil")
	}
	s := stitch.New(16)
	tab := New(s)
	if tab.System() != s || tab.Opened() != nil {
		t.Error(tab)
	}
	opens(t, tab, "/a", api.Writing|api.Creating, 0)
	writes(t, tab, 0, "x", 1)
	if data, e := s.Read("/a"); data != "x" || e != api.OK {
		t.Error("not done there", data, e)
	}
}

// P20.1: ErrRange, whatever the path and however many are open.
func TestOpenFlags(t *testing.T) {
	tab := made(t, create("/a"))
	for n := range api.MaxFds {
		opens(t, tab, "/a", api.Reading, n)
	}
	for flags := -200; flags < 400; flags++ {
		want := api.ErrFull
		if flags < 0 || flags >= 64 || flags%4 == 0 {
			want = api.ErrRange
		}
		wont(t, tab, "/a", flags, want)
		wont(t, tab, "/z", flags, want)
		if want == api.ErrFull {
			want = api.ErrForm
		}
		wont(t, tab, "a", flags, want)
	}
	for _, flags := range []int{math.MinInt, math.MaxInt, 1 << 32, 1<<32 + 1, math.MinInt + 1} {
		wont(t, tab, "/a", flags, api.ErrRange)
	}
}

// P20.1
func TestOpenErrors(t *testing.T) {
	tab := made(t, create("/a"), mkdir("/d"), create("/d/b"), write("/d/b", "x"))
	for _, path := range []string{"", "a", "//", "/a/", "/A", "/.", "/d//b", "/a-b-c-d-", "/a/b/c/d/e", "/\x00", "/\xff", "/é", filled("/", 100)} {
		for _, flags := range []int{api.Reading, both | api.Creating, 63} {
			wont(t, tab, path, flags, api.ErrForm)
		}
	}
	for flags := range 64 {
		if flags%4 == 0 {
			continue
		}
		has := func(flag int) bool { return flags&flag != 0 }
		made, there, dir, bytes := api.OK, api.OK, api.OK, api.OK
		if !has(api.Creating) {
			made = api.ErrNoent
		}
		if has(api.Writing) || has(api.Cutting) {
			dir = api.ErrIsdir
		}
		if has(api.Cutting) && !has(api.Writing) {
			bytes = api.ErrState
		}
		if has(api.Alone) && has(api.Creating) {
			there, dir, bytes = api.ErrExist, api.ErrExist, api.ErrExist
		}
		for path, want := range map[string]api.Errno{
			"/z": made, "/d/z": made, "/z/a": api.ErrNoent, "/a/z": api.ErrNotdir, "/d/b/z/y": api.ErrNotdir,
			"/a": there, "/d": dir, "/": dir, "/d/b": bytes,
		} {
			if want != api.OK {
				wont(t, tab, path, flags, want)
				continue
			}
			f := tab.Fork()
			opens(t, f, path, flags, 0)
			size, data := 0, ""
			if path == "/d/b" && !has(api.Cutting) {
				size, data = 1, "x"
			}
			isDir := path == "/" || path == "/d"
			stands(t, f, 0, api.Stat{Dir: isDir, Size: size, Links: 1, Path: path})
			if !isDir {
				holds(t, f, path, data)
			}
			opens(t, f, "/", api.Reading, 1)
		}
	}
	areOpen(t, tab)
}

// P20.1: the error of Create, and of Truncate; nothing is open then.
func TestOpenWithoutRoom(t *testing.T) {
	tab := made(t, create("/a"), write("/a", "ab"))
	for n := range 13 {
		done(t, tab, create("/b"+strconv.Itoa(n)))
		tab.System().Sync()
	}
	wont(t, tab, "/c", api.Writing|api.Creating, api.ErrSpace)
	full(t, tab, "/a")
	wont(t, tab, "/a", api.Writing|api.Cutting, api.ErrFull)
	wont(t, tab, "/a", api.Reading|api.Cutting, api.ErrState)
	holds(t, tab, "/a", "xb")
	areOpen(t, tab)
	// Without bytes there is nothing to cut.
	opens(t, tab, "/b0", api.Writing|api.Cutting, 0)
	tab = made(t, create("/a"), write("/a", "a"))
	full(t, tab, "/a")
	wont(t, tab, "/b", api.Writing|api.Creating, api.ErrFull)
	opens(t, tab, "/a", api.Writing|api.Creating, 0)
}

// P20.1, P20.2, P20.4: numbers are the least that are not taken.
func TestNumbers(t *testing.T) {
	tab := made(t, create("/a"))
	for n := range api.MaxFds {
		opens(t, tab, "/a", api.Reading, n)
	}
	wont(t, tab, "/a", api.Reading, api.ErrFull)
	wont(t, tab, "/z", api.Reading, api.ErrFull)
	wont(t, tab, "/z", api.Writing|api.Creating, api.ErrFull)
	if n, e := tab.Dup(3); n != 0 || e != api.ErrFull {
		t.Error(n, e)
	}
	if n, e := tab.Dup(12); n != 0 || e != api.ErrNoent {
		t.Error(n, e)
	}
	for _, n := range []int{7, 11, 2} {
		if e := tab.Close(n); e != api.OK {
			t.Error(n, e)
		}
		if e := tab.Close(n); e != api.ErrNoent {
			t.Error(n, e)
		}
	}
	areOpen(t, tab, 0, 1, 3, 4, 5, 6, 8, 9, 10)
	opens(t, tab, "/", api.Reading, 2)
	if n, e := tab.Dup(0); n != 7 || e != api.OK {
		t.Error(n, e)
	}
	opens(t, tab, "/a", api.Reading, 11)
	wont(t, tab, "/a", api.Reading, api.ErrFull)
	for n := range api.MaxFds {
		if e := tab.Close(n); e != api.OK {
			t.Error(n, e)
		}
	}
	areOpen(t, tab)
}

// lost fails the test unless all calls of n but Close and Dup have ErrNoent.
func lost(t *testing.T, tab *Table, n int) {
	t.Helper()
	unchanged(t, tab, func() {
		is := func(what string, zero bool, e api.Errno) {
			t.Helper()
			if !zero || e != api.ErrNoent {
				t.Error(what, n, e, zero)
			}
		}
		for _, k := range []int{0, 1, -1, math.MaxInt, math.MinInt} {
			pos, e := tab.Seek(n, k, k)
			is("Seek", pos == 0, e)
			data, e := tab.Read(n, k)
			is("Read", data == "", e)
			data, e = tab.At(n, k, k)
			is("At", data == "", e)
			names, e := tab.Names(n, k)
			is("Names", names == nil, e)
		}
		many, e := tab.Write(n, "x")
		is("Write", many == 0, e)
		many, e = tab.Write(n, "")
		is("Write", many == 0, e)
		is("Cut", true, tab.Cut(n))
		st, e := tab.Stat(n)
		is("Stat", st == api.Stat{}, e)
		is("Flush", true, tab.Flush(n))
	})
}

// P20.2
func TestNotOpen(t *testing.T) {
	tab := made(t, create("/a"), write("/a", "x"))
	opens(t, tab, "/a", both, 0)
	opens(t, tab, "/a", both, 1)
	tab.Close(0)
	for _, n := range append(far, 0, 2, 11) {
		lost(t, tab, n)
		if e := tab.Close(n); e != api.ErrNoent {
			t.Error(n, e)
		}
		if other, e := tab.Dup(n); other != 0 || e != api.ErrNoent {
			t.Error(n, other, e)
		}
	}
	areOpen(t, tab, 1)
}

// P20.2: no path leads there, as whoever has the system can take it away; or the inode is another thing's now.
func TestGone(t *testing.T) {
	tab := made(t, create("/a"), write("/a", "hello"))
	opens(t, tab, "/a", both, 0)
	seeks(t, tab, 0, 3, 0, 3)
	done(t, tab, unlink("/a"))
	lost(t, tab, 0)
	if n, e := tab.Dup(0); n != 1 || e != api.OK {
		t.Error(n, e)
	}
	lost(t, tab, 1)
	areOpen(t, tab, 0, 1)
	done(t, tab, create("/b"))
	stands(t, tab, 1, api.Stat{Links: 1, Pos: 3, Path: "/b"})
	reads(t, tab, 0, 9, "")
	if n, e := tab.Write(1, "x"); n != 0 || e != api.ErrRange {
		t.Error(n, e)
	}
	done(t, tab, unlink("/b"), mkdir("/c"))
	stands(t, tab, 0, api.Stat{Dir: true, Links: 1, Pos: 3, Path: "/c"})
	for what, e := range map[string]api.Errno{
		"Cut":  tab.Cut(0),
		"Read": func() api.Errno { _, e := tab.Read(0, 1); return e }(), "Write": func() api.Errno { _, e := tab.Write(0, ""); return e }(),
	} {
		if e != api.ErrIsdir {
			t.Error(what, e)
		}
	}
	done(t, tab, create("/c/d"), create("/c/e"))
	if l, e := tab.Names(0, 9); len(l) != 0 || e != api.OK {
		t.Error(l, e)
	}
	seeks(t, tab, 1, 0, 0, 0)
	if l, e := tab.Names(0, 9); !slices.Equal(l, []string{"d", "e"}) || e != api.OK {
		t.Error(l, e)
	}
	if e := tab.Close(0); e != api.OK {
		t.Error(e)
	}
	areOpen(t, tab, 1)
}

// P20.2
func TestDup(t *testing.T) {
	tab := made(t, create("/a"), write("/a", "hello"))
	opens(t, tab, "/a", api.Reading, 0)
	opens(t, tab, "/a", both, 1)
	for i, n := range []int{0, 1, 3} {
		if other, e := tab.Dup(n); other != 2+i || e != api.OK {
			t.Error(n, other, e)
		}
	}
	// 0 and 2 share a position; so do 1, 3 and 4.
	reads(t, tab, 0, 2, "he")
	reads(t, tab, 2, 2, "ll")
	reads(t, tab, 4, 1, "h")
	writes(t, tab, 3, "XY", 2)
	reads(t, tab, 1, 9, "lo")
	reads(t, tab, 0, 9, "o")
	// Flags go with it.
	if n, e := tab.Write(2, "x"); n != 0 || e != api.ErrState {
		t.Error(n, e)
	}
	// What is shared stays when one of those is closed.
	tab.Close(1)
	seeks(t, tab, 3, 1, 0, 1)
	tab.Close(3)
	reads(t, tab, 4, 9, "XYlo")
	stands(t, tab, 2, api.Stat{Size: 5, Links: 1, Pos: 5, Path: "/a"})
}

// P20.2
func TestSeek(t *testing.T) {
	tab := made(t, create("/a"), write("/a", filled("a", 64)), mkdir("/d"))
	opens(t, tab, "/a", api.Reading, 0)
	seeks(t, tab, 0, 5, 0, 5)
	seeks(t, tab, 0, 0, 1, 5)
	seeks(t, tab, 0, -5, 1, 0)
	seeks(t, tab, 0, 256, 1, 256)
	seeks(t, tab, 0, -256, 1, 0)
	seeks(t, tab, 0, 0, 2, 64)
	seeks(t, tab, 0, -64, 2, 0)
	seeks(t, tab, 0, 192, 2, 256)
	seeks(t, tab, 0, 256, 0, 256)
	seeks(t, tab, 0, 0, 0, 0)
	seeks(t, tab, 0, 100, 0, 100)
	for _, c := range [][2]int{
		{-1, 0}, {257, 0}, {156 + 1, 1}, {-101, 1}, {193, 2}, {-65, 2}, {0, 3}, {0, -1}, {1, 3}, {-257, 1}, {-257, 2}, {257, 1}, {257, 2},
		{math.MaxInt, 1}, {math.MinInt, 1}, {math.MaxInt, 2}, {math.MinInt, 2}, {math.MinInt, 0}, {0, math.MaxInt}, {0, math.MinInt},
	} {
		if pos, e := tab.Seek(0, c[0], c[1]); pos != 0 || e != api.ErrRange {
			t.Error(c, pos, e)
		}
		stands(t, tab, 0, api.Stat{Size: 64, Links: 1, Pos: 100, Path: "/a"})
	}
	// Whatever the flags.
	opens(t, tab, "/a", api.Writing, 1)
	seeks(t, tab, 1, 7, 0, 7)
	// From above the end, and from the end of another length.
	done(t, tab, api.Op{Kind: api.Truncate, Path: "/a"}, write("/a", "abc"))
	seeks(t, tab, 0, 1, 1, 101)
	seeks(t, tab, 0, -1, 2, 2)
	reads(t, tab, 0, 9, "c")
	// Of a directory.
	opens(t, tab, "/d", api.Reading, 2)
	seeks(t, tab, 2, 0, 0, 0)
	for _, c := range [][2]int{{1, 0}, {0, 1}, {0, 2}, {0, 3}, {-1, 0}, {math.MaxInt, 9}, {257, 0}} {
		if pos, e := tab.Seek(2, c[0], c[1]); pos != 0 || e != api.ErrIsdir {
			t.Error(c, pos, e)
		}
	}
}

// P20.3
func TestRead(t *testing.T) {
	long := filled("0123456789", 6)
	tab := made(t, create("/a"), write("/a", long), mkdir("/d"))
	opens(t, tab, "/a", api.Reading, 0)
	reads(t, tab, 0, 0, "")
	reads(t, tab, 0, 3, "012")
	reads(t, tab, 0, 40, long[3:43])
	reads(t, tab, 0, 0, "")
	reads(t, tab, 0, 40, long[43:])
	reads(t, tab, 0, 40, "")
	stands(t, tab, 0, api.Stat{Size: 60, Links: 1, Pos: 60, Path: "/a"})
	seeks(t, tab, 0, 58, 0, 58)
	reads(t, tab, 0, math.MaxInt, "89")
	seeks(t, tab, 0, 256, 0, 256)
	reads(t, tab, 0, math.MaxInt, "")
	stands(t, tab, 0, api.Stat{Size: 60, Links: 1, Pos: 256, Path: "/a"})
	seeks(t, tab, 0, 5, 0, 5)
	opens(t, tab, "/a", api.Writing, 1)
	opens(t, tab, "/d", api.Reading, 2)
	unchanged(t, tab, func() {
		for _, many := range []int{-1, math.MinInt} {
			if data, e := tab.Read(0, many); data != "" || e != api.ErrRange {
				t.Error(many, data, e)
			}
		}
		for _, many := range []int{-1, 0, 1} {
			if data, e := tab.Read(1, many); data != "" || e != api.ErrState {
				t.Error(many, data, e)
			}
			if data, e := tab.Read(2, many); data != "" || e != api.ErrIsdir {
				t.Error(many, data, e)
			}
		}
	})
}

// P20.3
func TestAt(t *testing.T) {
	tab := made(t, create("/a"), write("/a", "0123456789"), mkdir("/d"))
	opens(t, tab, "/a", api.Reading, 0)
	opens(t, tab, "/a", api.Writing, 1)
	opens(t, tab, "/d", api.Reading, 2)
	seeks(t, tab, 0, 4, 0, 4)
	unchanged(t, tab, func() {
		for _, c := range []struct {
			off, many int
			want      string
		}{
			{0, 3, "012"}, {9, 3, "9"}, {10, 3, ""}, {256, 1, ""}, {3, 0, ""}, {2, math.MaxInt, "23456789"}, {256, math.MaxInt, ""}, {0, 10, "0123456789"},
		} {
			if data, e := tab.At(0, c.off, c.many); data != c.want || e != api.OK {
				t.Error(c, data, e)
			}
		}
		for _, c := range [][2]int{{-1, 1}, {257, 1}, {0, -1}, {257, 0}, {math.MaxInt, math.MaxInt}, {math.MinInt, 1}, {3, math.MinInt}, {-1, 0}} {
			if data, e := tab.At(0, c[0], c[1]); data != "" || e != api.ErrRange {
				t.Error(c, data, e)
			}
			if data, e := tab.At(1, c[0], c[1]); data != "" || e != api.ErrState {
				t.Error(c, data, e)
			}
			if data, e := tab.At(2, c[0], c[1]); data != "" || e != api.ErrIsdir {
				t.Error(c, data, e)
			}
		}
		if data, e := tab.At(1, 0, 1); data != "" || e != api.ErrState {
			t.Error(data, e)
		}
	})
}

// P20.3
func TestWrite(t *testing.T) {
	tab := made(t, create("/a"), create("/b"))
	opens(t, tab, "/a", api.Writing, 0)
	writes(t, tab, 0, "hello", 5)
	writes(t, tab, 0, " all", 4)
	holds(t, tab, "/a", "hello all")
	seeks(t, tab, 0, 1, 0, 1)
	writes(t, tab, 0, "", 0)
	writes(t, tab, 0, "XY", 2)
	holds(t, tab, "/a", "hXYlo all")
	stands(t, tab, 0, api.Stat{Size: 9, Links: 1, Pos: 3, Path: "/a"})
	// At the end, and above it.
	seeks(t, tab, 0, 9, 0, 9)
	writes(t, tab, 0, "!", 1)
	seeks(t, tab, 0, 11, 0, 11)
	unchanged(t, tab, func() {
		if n, e := tab.Write(0, "x"); n != 0 || e != api.ErrRange {
			t.Error(n, e)
		}
		writes(t, tab, 0, "", 0)
	})
	// Bytes of any kind.
	opens(t, tab, "/b", both, 1)
	writes(t, tab, 1, "\x00\xff\n", 3)
	seeks(t, tab, 1, 0, 0, 0)
	reads(t, tab, 1, 9, "\x00\xff\n")
	// Neither a directory's nor without Writing; that is asked first.
	opens(t, tab, "/b", api.Reading, 2)
	opens(t, tab, "/", api.Reading, 3)
	unchanged(t, tab, func() {
		for n := 2; n <= 3; n++ {
			for _, data := range []string{"", "x"} {
				if n, e := tab.Write(n, data); n != 0 || e != api.ErrState {
					t.Error(n, e)
				}
			}
		}
	})
}

// P20.3: pieces of MaxWrite bytes, until one has an error.
func TestWritePieces(t *testing.T) {
	for _, c := range []struct{ at, long, want int }{
		{0, 64, 64}, {0, 65, 65}, {0, 128, 128}, {0, 256, 256}, {0, 257, 256}, {0, 300, 256}, {0, 10000, 256},
		{10, 246, 246}, {10, 247, 192}, {10, 300, 192}, {1, 255, 255}, {1, 256, 192}, {192, 64, 64}, {200, 56, 56}, {200, 128, 0}, {200, 57, 0}, {256, 1, 0}, {192, 65, 64}, {193, 64, 0},
	} {
		tab := made(t, create("/a"))
		opens(t, tab, "/a", both, 0)
		writes(t, tab, 0, filled("a", c.at), c.at)
		data := filled("0123456789", 1000)[:c.long]
		if c.want == 0 {
			unchanged(t, tab, func() {
				if n, e := tab.Write(0, data); n != 0 || e != api.ErrRange {
					t.Error(c, n, e)
				}
			})
			continue
		}
		writes(t, tab, 0, data, c.want)
		holds(t, tab, "/a", filled("a", c.at)+data[:c.want])
		stands(t, tab, 0, api.Stat{Size: c.at + c.want, Links: 1, Pos: c.at + c.want, Path: "/a"})
	}
}

// P20.3: a piece for which there is no room.
func TestWriteWithoutRoom(t *testing.T) {
	tab := New(stitch.New(16)) // 5 blocks, of which the root needs one
	done(t, tab, create("/a"), create("/b"))
	opens(t, tab, "/a", both, 0)
	writes(t, tab, 0, filled("a", 250), 128)
	opens(t, tab, "/b", both, 1)
	unchanged(t, tab, func() {
		if n, e := tab.Write(1, filled("a", 250)); n != 0 || e != api.ErrSpace {
			t.Error(n, e)
		}
	})
	full(t, tab, "/a")
	seeks(t, tab, 0, 5, 0, 5)
	unchanged(t, tab, func() {
		if n, e := tab.Write(0, "x"); n != 0 || e != api.ErrFull {
			t.Error(n, e)
		}
		writes(t, tab, 0, "", 0)
	})
}

// P20.3
func TestAppending(t *testing.T) {
	tab := made(t, create("/a"), write("/a", "abc"))
	opens(t, tab, "/a", both|api.Appending, 0)
	reads(t, tab, 0, 1, "a")
	writes(t, tab, 0, "de", 2)
	holds(t, tab, "/a", "abcde")
	stands(t, tab, 0, api.Stat{Size: 5, Links: 1, Pos: 5, Path: "/a"})
	seeks(t, tab, 0, 100, 0, 100)
	writes(t, tab, 0, "f", 1)
	seeks(t, tab, 0, 2, 0, 2)
	reads(t, tab, 0, 9, "cdef")
	opens(t, tab, "/a", api.Writing|api.Appending, 1)
	writes(t, tab, 1, "g", 1)
	writes(t, tab, 0, "h", 1)
	holds(t, tab, "/a", "abcdefgh")
	stands(t, tab, 1, api.Stat{Size: 8, Links: 1, Pos: 7, Path: "/a"})
	writes(t, tab, 1, "", 0)
	stands(t, tab, 1, api.Stat{Size: 8, Links: 1, Pos: 8, Path: "/a"})
	seeks(t, tab, 1, 3, 0, 3)
	writes(t, tab, 1, filled("z", 300), 192)
	stands(t, tab, 1, api.Stat{Size: 200, Links: 1, Pos: 200, Path: "/a"})
	seeks(t, tab, 1, 3, 0, 3)
	unchanged(t, tab, func() {
		if n, e := tab.Write(1, filled("z", 57)); n != 0 || e != api.ErrRange {
			t.Error(n, e)
		}
	})
}

// P20.3
func TestNames(t *testing.T) {
	tab := made(t, mkdir("/d"), create("/d/x"), create("/d/a"), mkdir("/d/m"), create("/d/m/n"), create("/f"))
	opens(t, tab, "/d", api.Reading, 0)
	names := func(n, many int, want ...string) {
		t.Helper()
		if l, e := tab.Names(n, many); !slices.Equal(l, want) || e != api.OK {
			t.Error("Names", n, many, l, e, "not", want)
		}
	}
	names(0, 0)
	names(0, 2, "a", "m")
	stands(t, tab, 0, api.Stat{Dir: true, Links: 1, Pos: 2, Path: "/d"})
	names(0, 2, "x")
	names(0, 2)
	names(0, math.MaxInt)
	done(t, tab, create("/d/y"))
	names(0, 1, "y")
	done(t, tab, unlink("/d/a"), unlink("/d/y"))
	names(0, 1)
	stands(t, tab, 0, api.Stat{Dir: true, Links: 1, Pos: 4, Path: "/d"})
	seeks(t, tab, 0, 0, 0, 0)
	names(0, math.MaxInt, "m", "x")
	opens(t, tab, "/", api.Reading, 1)
	names(1, 9, "d", "f")
	opens(t, tab, "/f", both, 2)
	opens(t, tab, "/f", api.Writing, 3)
	opens(t, tab, "/d/m", api.Reading|api.Creating|api.Appending, 4)
	names(4, 1, "n")
	unchanged(t, tab, func() {
		for _, many := range []int{-1, math.MinInt, 0, 3} {
			if l, e := tab.Names(1, many); many < 0 && (l != nil || e != api.ErrRange) {
				t.Error(many, l, e)
			}
			if l, e := tab.Names(2, many); l != nil || e != api.ErrNotdir {
				t.Error(many, l, e)
			}
			if l, e := tab.Names(3, many); l != nil || e != api.ErrState {
				t.Error(many, l, e)
			}
		}
	})
}

// P20.3
func TestCut(t *testing.T) {
	tab := made(t, create("/a"), write("/a", "hello"), create("/b"))
	opens(t, tab, "/a", api.Writing, 0)
	seeks(t, tab, 0, 3, 0, 3)
	opens(t, tab, "/a", api.Reading, 1)
	opens(t, tab, "/", api.Reading, 2)
	unchanged(t, tab, func() {
		for n := 1; n <= 2; n++ {
			if e := tab.Cut(n); e != api.ErrState {
				t.Error(n, e)
			}
		}
	})
	if e := tab.Cut(0); e != api.OK {
		t.Error(e)
	}
	stands(t, tab, 0, api.Stat{Links: 1, Pos: 3, Path: "/a"})
	holds(t, tab, "/a", "")
	unchanged(t, tab, func() {
		if e := tab.Cut(0); e != api.OK {
			t.Error(e)
		}
	})
	seeks(t, tab, 0, 0, 0, 0)
	writes(t, tab, 0, "x", 1)
	opens(t, tab, "/b", api.Writing, 3)
	full(t, tab, "/a")
	unchanged(t, tab, func() {
		if e := tab.Cut(0); e != api.ErrFull {
			t.Error(e)
		}
		if e := tab.Cut(3); e != api.OK {
			t.Error(e)
		}
	})
}

// P20.4; a path of an inode is the least one.
func TestStat(t *testing.T) {
	tab := made(t, mkdir("/d"), create("/d/m"), write("/d/m", "abc"), link("/d/m", "/x"))
	opens(t, tab, "/x", api.Writing, 0)
	opens(t, tab, "/d", api.Reading, 1)
	opens(t, tab, "/", api.Reading, 2)
	stands(t, tab, 0, api.Stat{Size: 3, Links: 2, Path: "/d/m"})
	stands(t, tab, 1, api.Stat{Dir: true, Links: 1, Path: "/d"})
	stands(t, tab, 2, api.Stat{Dir: true, Links: 1, Path: "/"})
	done(t, tab, link("/x", "/d-"))
	stands(t, tab, 0, api.Stat{Size: 3, Links: 3, Path: "/d-"})
	writes(t, tab, 0, "X", 1)
	holds(t, tab, "/x", "Xbc")
	done(t, tab, unlink("/d-"), unlink("/d/m"))
	stands(t, tab, 0, api.Stat{Size: 3, Links: 1, Pos: 1, Path: "/x"})
}

// P20.4: the Links are those of the image, even where they are too many.
func TestLinksOfAnImage(t *testing.T) {
	tab := made(t, create("/a"))
	img := tab.System().Image()
	ino, _ := image.Find(img, "/a")
	img[3+ino/2][16*(ino%2)+1] = 7
	tab = New(stitch.Mount(img))
	opens(t, tab, "/a", both, 0)
	stands(t, tab, 0, api.Stat{Links: 7, Path: "/a"})
	if e := tab.Unlink("/a"); e != api.ErrBusy {
		t.Error(e)
	}
}

// P20.4, P20.6
func TestUnlink(t *testing.T) {
	tab := made(t, create("/a"), link("/a", "/b"), create("/c"), mkdir("/d"))
	opens(t, tab, "/a", api.Reading, 0)
	opens(t, tab, "/d", api.Reading, 1)
	unlinks := func(path string, want api.Errno) {
		t.Helper()
		call := func() {
			if e := tab.Unlink(path); e != want {
				t.Error("Unlink", path, "answers", e, "not", want)
			}
		}
		if want == api.OK {
			call()
		} else {
			unchanged(t, tab, call)
		}
	}
	unlinks("/c", api.OK)
	unlinks("/c", api.ErrNoent)
	unlinks("/d", api.ErrIsdir)
	unlinks("/", api.ErrForm)
	unlinks("", api.ErrForm)
	unlinks("/d/x/y", api.ErrNoent)
	unlinks("/b/x", api.ErrNotdir)
	unlinks("/a", api.OK)
	unlinks("/b", api.ErrBusy)
	stands(t, tab, 0, api.Stat{Links: 1, Path: "/b"})
	tab.Dup(0)
	tab.Close(0)
	unlinks("/b", api.ErrBusy)
	tab.Close(2)
	unlinks("/b", api.OK)
	// What can't be done has its error, but that the file is open goes first.
	tab = made(t, create("/a"), create("/b"), write("/b", "b"))
	opens(t, tab, "/a", api.Reading, 0)
	full(t, tab, "/b")
	unlinks("/a", api.ErrBusy)
	unlinks("/b", api.ErrFull)
}

// P20.4
func TestRename(t *testing.T) {
	tab := made(t, create("/a"), write("/a", "abc"), mkdir("/d"), create("/e"))
	opens(t, tab, "/a", both, 0)
	reads(t, tab, 0, 1, "a")
	if e := tab.Rename("/a", "/d/z"); e != api.OK {
		t.Error(e)
	}
	stands(t, tab, 0, api.Stat{Size: 3, Links: 1, Pos: 1, Path: "/d/z"})
	writes(t, tab, 0, "X", 1)
	holds(t, tab, "/d/z", "aXc")
	unchanged(t, tab, func() {
		for _, c := range []struct {
			path, other string
			want        api.Errno
		}{
			{"/a", "/b", api.ErrNoent}, {"/d", "/b", api.ErrIsdir}, {"/e", "/d/z", api.ErrExist}, {"/e", "/e/x", api.ErrNotdir},
			{"/", "/b", api.ErrForm}, {"/e", "", api.ErrForm}, {"/e", "/e", api.ErrExist}, {"/e", "/x/y", api.ErrNoent},
		} {
			if e := tab.Rename(c.path, c.other); e != c.want {
				t.Error(c, e)
			}
		}
	})
}

// P20.4
func TestFlush(t *testing.T) {
	tab := made(t, create("/a"))
	opens(t, tab, "/a", api.Reading, 0)
	for _, n := range append(far, 1) {
		if e := tab.Flush(n); e != api.ErrNoent || tab.System().Waiting() == 0 {
			t.Error(n, e)
		}
	}
	if e := tab.Flush(0); e != api.OK || tab.System().Waiting() != 0 {
		t.Error(e)
	}
	done(t, tab, write("/a", "x"))
	tab.System().Spoil(3, true)
	tab.System().Spoil(4, true)
	if e := tab.Flush(0); e != api.ErrIO {
		t.Error(e)
	}
}

// P20.4: what becomes of a Fork changes nothing of the other one.
func TestFork(t *testing.T) {
	tab := made(t, create("/a"), write("/a", "hello"))
	opens(t, tab, "/a", both, 0)
	opens(t, tab, "/a", both, 1)
	if n, e := tab.Dup(0); n != 2 || e != api.OK {
		t.Fatal(n, e)
	}
	reads(t, tab, 0, 2, "he")
	f := tab.Fork()
	if f.System() == tab.System() || f.System() == nil {
		t.Error("over the same system")
	}
	unchanged(t, tab, func() {
		if was := told(tab); !was.same(told(f)) {
			t.Error("not the same")
		}
		reads(t, f, 0, 1, "l")
		writes(t, f, 2, "X", 1)
		reads(t, f, 1, 9, "helXo")
		opens(t, f, "/b", api.Writing|api.Creating, 3)
		f.Close(1)
		if e := f.Rename("/a", "/c"); e != api.OK {
			t.Error(e)
		}
		stands(t, f, 2, api.Stat{Size: 5, Links: 1, Pos: 4, Path: "/c"})
	})
	unchanged(t, f, func() {
		reads(t, tab, 2, 1, "l")
		reads(t, tab, 0, 9, "lo")
		tab.Close(0)
		tab.Close(1)
		done(t, tab, unlink("/a"))
	})
}

// P1: what a nil table answers.
func TestNil(t *testing.T) {
	var tab *Table
	is := func(what string, zero bool, e api.Errno) {
		t.Helper()
		if !zero || e != api.ErrNil {
			t.Error(what, zero, e)
		}
	}
	n, e := tab.Open("", -1)
	is("Open", n == 0, e)
	is("Close", true, tab.Close(0))
	n, e = tab.Dup(-1)
	is("Dup", n == 0, e)
	n, e = tab.Seek(0, 0, 0)
	is("Seek", n == 0, e)
	data, e := tab.Read(0, -1)
	is("Read", data == "", e)
	n, e = tab.Write(0, "x")
	is("Write", n == 0, e)
	data, e = tab.At(0, -1, 0)
	is("At", data == "", e)
	l, e := tab.Names(0, -1)
	is("Names", l == nil, e)
	is("Cut", true, tab.Cut(0))
	st, e := tab.Stat(0)
	is("Stat", st == api.Stat{}, e)
	is("Unlink", true, tab.Unlink(""))
	is("Rename", true, tab.Rename("", ""))
	is("Flush", true, tab.Flush(0))
	if tab.Opened() != nil || tab.System() != nil || tab.Fork() != nil {
		t.Error("not none")
	}
}

// Example 1; P20.5.
func TestExample(t *testing.T) {
	tab := made(t)
	opens(t, tab, "/a", api.Writing|api.Creating, 0)
	writes(t, tab, 0, "hello", 5)
	seeks(t, tab, 0, 1, 0, 1)
	if n, e := tab.Dup(0); n != 1 || e != api.OK {
		t.Error(n, e)
	}
	writes(t, tab, 1, "E", 1)
	stands(t, tab, 0, api.Stat{Size: 5, Links: 1, Pos: 2, Path: "/a"})
	opens(t, tab, "/a", api.Reading, 2)
	reads(t, tab, 2, 9, "hEllo")
}

// P3: names that were answered are the caller's.
func TestHandedOver(t *testing.T) {
	tab := made(t, create("/a"), create("/b"), create("/c"))
	opens(t, tab, "/", api.Reading, 0)
	l, _ := tab.Names(0, 2)
	clear(l[:cap(l)])
	l, e := tab.Names(0, 2)
	if !slices.Equal(l, []string{"c"}) || e != api.OK {
		t.Error(l, e)
	}
	o := tab.Opened()
	clear(o)
	o[0] = 7
	areOpen(t, tab, 0)
}
