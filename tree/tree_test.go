package tree

import (
	"math"
	"slices"
	"strconv"
	"strings"
	"testing"

	"selvedge/api"
)

// dir, leaf and again are nodes: a directory, a file with its least path, one more path of one.
func dir(path string) api.Node { return api.Node{Path: path, Dir: true, First: path} }

func leaf(path, data string) api.Node { return api.Node{Path: path, Data: data, First: path} }

func again(path, first, data string) api.Node { return api.Node{Path: path, Data: data, First: first} }

// some is a tree with a bit of everything; - stands ahead of / , and that ahead of digits and letters.
func some() []api.Node {
	return []api.Node{
		dir("/"), leaf("/a", "data"), leaf("/a-b", ""), dir("/d"), leaf("/d-", "beside"), again("/d/b", "/a", "data"), dir("/d/e"), dir("/d/e/f"), leaf("/d/e/f/g", "deep"),
		again("/d0", "/d-", "beside"), dir("/x"), again("/z", "/a", "data"),
	}
}

// full is a tree of so many nodes: the root, a directory, and files.
func full(nodes int) []api.Node {
	t := []api.Node{dir("/"), dir("/d")}
	for i := range nodes - 2 {
		t = append(t, leaf("/d/"+strconv.Itoa(1000+i), ""))
	}
	return t
}

// other is a tree with a change.
func other(change func(t []api.Node) []api.Node) []api.Node { return change(some()) }

// set is a tree with another node at a place.
func set(i int, n api.Node) []api.Node {
	t := some()
	t[i] = n
	return t
}

// insert is a tree with one more node at a place.
func insert(i int, n api.Node) []api.Node { return slices.Insert(some(), i, n) }

var long = strings.Repeat("0123456789abcdef", 16) // MaxSize bytes

// wrongPaths are texts that are no paths.
func wrongPaths() []string {
	return []string{
		"", "a", "//", "///", "/a/", "//a", "/d//e", "d/e", "/d/", " /a", "/a ", "/A", "/.", "/..", "/a.b", "/a_b", "/abcdefgh", "/a/abcdefgh", "/a\x00", "\x00/a", "/é", "/\xff", "\xff/a", "/a\xe4/b", "/\xe4", "é/a", "/a\\b",
		"/a/b/c/d/e", "/a/b/c/d/", "/a/a/a/a/a/a", strings.Repeat("/", 1000000), strings.Repeat("/a", 1000000), strings.Repeat("a", 1000000), "/" + strings.Repeat("a", 1000000),
	}
}

// wrongTrees are nodes that are no tree, by what is wrong with them.
func wrongTrees() map[string][]api.Node {
	l := map[string][]api.Node{
		"nil": nil, "none": {}, "no root": {dir("/a")}, "a file for a root": {leaf("/", "")}, "a root with data": {{Path: "/", Dir: true, First: "/", Data: "x"}}, "a root with no first": {{Path: "/", Dir: true}},
		"a root with another first": {{Path: "/", Dir: true, First: "/a"}, leaf("/a", "")}, "the zero node": {{}}, "a node and no root": some()[1:], "two roots": {dir("/"), dir("/")}, "too many": full(513), "far too many": full(9000),
		"the root at the end":     {leaf("/a", ""), dir("/")},
		"two alike":               insert(2, leaf("/a", "data")),
		"two alike, one more":     insert(2, again("/a", "/a", "other")),
		"a file and a directory":  insert(4, leaf("/d", "")),
		"not rising":              {dir("/"), leaf("/b", ""), leaf("/a", "")},
		"not rising as bytes":     {dir("/"), dir("/a"), leaf("/a/b", ""), leaf("/a-", "")},
		"a directory below":       {dir("/"), leaf("/a/b", ""), dir("/a")},
		"a root's other name":     insert(1, dir("")),
		"nothing ahead":           {dir("/"), leaf("/a/b", "")},
		"nothing far ahead":       {dir("/"), dir("/a"), leaf("/a/b/c", "")},
		"a file ahead":            {dir("/"), leaf("/a", ""), leaf("/a/b", "")},
		"a file far ahead":        {dir("/"), leaf("/a", ""), dir("/a/b"), leaf("/a/b/c", "")},
		"a directory below one":   {dir("/"), leaf("/a", ""), dir("/a/b")},
		"a directory with data":   set(10, api.Node{Path: "/x", Dir: true, Data: "x", First: "/x"}),
		"one with another first":  set(10, api.Node{Path: "/x", Dir: true, First: "/d"}),
		"one with no first":       set(10, api.Node{Path: "/x", Dir: true}),
		"one with the root":       set(10, api.Node{Path: "/x", Dir: true, First: "/"}),
		"one with a file's":       set(10, api.Node{Path: "/x", Dir: true, First: "/a"}),
		"a file too long":         {dir("/"), leaf("/a", long+"x")},
		"a file with no first":    set(2, api.Node{Path: "/a-b"}),
		"with one not there":      set(2, again("/a-b", "/a-a", "")),
		"with one that is none":   set(2, again("/a-b", "/A", "")),
		"with a directory":        set(11, again("/z", "/x", "")),
		"with the root":           set(11, again("/z", "/", "")),
		"with one behind":         {dir("/"), again("/a", "/b", "x"), leaf("/b", "x")},
		"with one behind, both":   {dir("/"), again("/a", "/b", "x"), again("/b", "/b", "x")},
		"each with the other one": {dir("/"), again("/a", "/b", "x"), again("/b", "/a", "x")},
		"with one whose is not":   {dir("/"), leaf("/a", "x"), again("/b", "/a", "x"), again("/c", "/b", "x")},
		"with other data":         set(11, again("/z", "/a", "date")),
		"with no data":            set(11, again("/z", "/a", "")),
		"with the first's other":  set(1, leaf("/a", "other")),
		"with a first that left":  other(func(t []api.Node) []api.Node { return slices.Delete(t, 1, 2) }),
		"without a directory":     other(func(t []api.Node) []api.Node { return slices.Delete(t, 6, 7) }),
		"without a far one":       other(func(t []api.Node) []api.Node { return slices.Delete(t, 3, 4) }),
	}
	for i, path := range wrongPaths() {
		l["a wrong path "+strconv.Itoa(i)] = append([]api.Node{dir("/")}, leaf(path, ""))
		l["a wrong directory "+strconv.Itoa(i)] = append([]api.Node{dir("/")}, dir(path))
		l["a wrong first "+strconv.Itoa(i)] = []api.Node{dir("/"), again("/a", path, "")}
	}
	return l
}

// wrongOps are operations that are not right.
func wrongOps() []api.Op {
	l := []api.Op{
		{}, {Path: "/n"}, {Kind: api.Truncate + 1, Path: "/n"}, {Kind: 255, Path: "/n"}, {Kind: api.Link, Path: "/a"}, {Kind: api.Rename, Path: "/a"}, {Kind: api.Link, Other: "/a"}, {Kind: api.Rename, Other: "/a"},
		{Kind: api.Write, Path: "/a"}, {Kind: api.Write, Path: "/a", Off: -1, Data: "x"}, {Kind: api.Write, Path: "/a", Off: api.MaxSize + 1, Data: "x"}, {Kind: api.Write, Path: "/a", Off: math.MaxInt, Data: "x"},
		{Kind: api.Write, Path: "/a", Off: math.MinInt, Data: "x"}, {Kind: api.Write, Path: "/a", Data: long[:65]}, {Kind: api.Write, Path: "/a", Data: strings.Repeat(long, 1000)}, {Kind: api.Write, Path: "/a", Other: "/b", Data: "x"},
	}
	for kind := api.Create; kind <= api.Truncate; kind++ {
		right := api.Op{Kind: kind, Path: "/a"}
		switch kind {
		case api.Link, api.Rename:
			right.Other = "/n"
		case api.Write:
			right.Data = "x"
		}
		for _, path := range append(wrongPaths(), "/") {
			o := right
			o.Path = path
			l = append(l, o)
			if o = right; path != "" || o.Other != "" {
				o.Other = path
				l = append(l, o)
			}
		}
		if kind != api.Write {
			off, less, data, both := right, right, right, right
			off.Off, less.Off, data.Data, both.Off, both.Data = 1, -1, "x", 1, "x"
			l = append(l, off, less, data, both)
		}
		if right.Other == "" {
			right.Other = "/n"
			l = append(l, right)
		}
	}
	return l
}

// apart is a tree with spare room behind it, that tells whether it was written.
func apart(t []api.Node) []api.Node {
	room := append(slices.Clone(t), dir("spare room"))
	return room[:len(t)]
}

// untouched fails the test unless a tree that is apart is as it was.
func untouched(t *testing.T, room, was []api.Node) {
	t.Helper()
	if !slices.Equal(room, was) || room[:len(was)+1][len(was)] != dir("spare room") {
		t.Error("what was handed in changed", room[:len(was)+1])
	}
}

// P11.1
func TestNew(t *testing.T) {
	if l := New(); !slices.Equal(l, []api.Node{{Path: "/", Dir: true, Data: "", First: "/"}}) || !Right(l) {
		t.Error(l)
	}
	l := New()
	l[0].Path = "/changed"
	if New()[0].Path != "/" {
		t.Error("what is answered is kept")
	}
}

// P11.1: each thing that a tree may have wrong, one at a time; and trees.
func TestRight(t *testing.T) {
	for name, l := range wrongTrees() {
		if Right(l) {
			t.Error(name)
		}
	}
	for name, l := range map[string][]api.Node{
		"new": New(), "some": some(), "full": full(512), "a file": {dir("/"), leaf("/a", "x")}, "as long as may be": {dir("/"), leaf("/a", long), again("/b", "/a", long)}, "any bytes": {dir("/"), leaf("/a", "\x00\xff\n/")},
		"as deep as may be": {dir("/"), dir("/abcdefg"), dir("/abcdefg/0123456"), dir("/abcdefg/0123456/-------"), leaf("/abcdefg/0123456/-------/zzzzzzz", "x")},
		"a deep directory":  {dir("/"), dir("/a"), dir("/a/a"), dir("/a/a/a"), dir("/a/a/a/a")},
		"files in a row":    {dir("/"), leaf("/a", "x"), again("/b", "/a", "x"), leaf("/c", "x"), again("/d", "/c", "x"), again("/e", "/a", "x")},
		"the same data":     {dir("/"), leaf("/a", "x"), leaf("/b", "x")},
		"ahead as bytes":    {dir("/"), dir("/a"), leaf("/a-", "x"), again("/a/b", "/a-", "x"), leaf("/a0", "")},
	} {
		if !Right(l) {
			t.Error(name)
		}
	}
}

// P11.1: what is right of each kind, at its edges.
func TestRightOp(t *testing.T) {
	for _, o := range wrongOps() {
		if RightOp(o) {
			t.Errorf("%d %.20q %.20q %d %d", o.Kind, o.Path, o.Other, o.Off, len(o.Data))
		}
	}
	for _, path := range []string{"/a", "/-", "/0", "/abcdefg", "/a/b/c/d", "/abcdefg/abcdefg/abcdefg/abcdefg"} {
		for _, o := range []api.Op{
			{Kind: api.Create, Path: path}, {Kind: api.Mkdir, Path: path}, {Kind: api.Unlink, Path: path}, {Kind: api.Rmdir, Path: path}, {Kind: api.Truncate, Path: path},
			{Kind: api.Link, Path: path, Other: "/q"}, {Kind: api.Link, Path: "/q", Other: path}, {Kind: api.Link, Path: path, Other: path}, {Kind: api.Rename, Path: path, Other: path}, {Kind: api.Rename, Path: "/q", Other: path},
			{Kind: api.Write, Path: path, Data: "x"}, {Kind: api.Write, Path: path, Data: "\x00"}, {Kind: api.Write, Path: path, Data: long[:64]}, {Kind: api.Write, Path: path, Off: 256, Data: long[:64]}, {Kind: api.Write, Path: path, Off: 1, Data: "\xff"},
		} {
			if !RightOp(o) {
				t.Error(o)
			}
		}
	}
}

// P11.1
func TestSplit(t *testing.T) {
	for path, want := range map[string][]string{
		"/": nil, "/a": {"a"}, "/abcdefg": {"abcdefg"}, "/a/b": {"a", "b"}, "/a/a/a/a": {"a", "a", "a", "a"}, "/-/0/z9/a-b": {"-", "0", "z9", "a-b"}, "/abcdefg/hijklmn/opqrstu/vwxyz01": {"abcdefg", "hijklmn", "opqrstu", "vwxyz01"},
	} {
		if names, e := Split(path); e != api.OK || !slices.Equal(names, want) {
			t.Error(path, names, e)
		}
	}
	for _, path := range wrongPaths() {
		if names, e := Split(path); e != api.ErrForm || len(names) != 0 {
			t.Errorf("%.20q %q %d", path, names, e)
		}
	}
	names, _ := Split("/a/b")
	names[0], _ = "changed", append(names, "more")
	if again, _ := Split("/a/b"); !slices.Equal(again, []string{"a", "b"}) {
		t.Error("what is answered is kept")
	}
}

// P11.1: of any nodes, a tree or not.
func TestGet(t *testing.T) {
	for _, want := range some() {
		if n, ok := Get(some(), want.Path); n != want || !ok {
			t.Error(n, ok)
		}
	}
	for _, path := range append(wrongPaths(), "/b", "/d/a", "/d/e/f/gg", "/a/b") {
		if n, ok := Get(some(), path); n != (api.Node{}) || ok {
			t.Errorf("%.20q %v", path, n)
		}
		if n, ok := Get(nil, path); n != (api.Node{}) || ok {
			t.Errorf("%.20q %v", path, n)
		}
	}
	none := []api.Node{leaf("/b", "first"), leaf("/a", "x"), leaf("/b", "second"), {Data: "no path"}}
	if n, ok := Get(none, "/b"); n != none[0] || !ok {
		t.Error(n, ok)
	}
	if n, ok := Get(none, ""); n != none[3] || !ok {
		t.Error(n, ok)
	}
}

// P11.1
func TestKids(t *testing.T) {
	for path, want := range map[string][]string{"/": {"a", "a-b", "d", "d-", "d0", "x", "z"}, "/d": {"b", "e"}, "/d/e": {"f"}, "/d/e/f": {"g"}, "/x": nil} {
		if names, e := Kids(some(), path); e != api.OK || !slices.Equal(names, want) {
			t.Error(path, names, e)
		}
	}
	for path, want := range map[string]api.Errno{"/a": api.ErrNotdir, "/d/b": api.ErrNotdir, "/d/e/f/g": api.ErrNotdir, "/b": api.ErrNoent, "/a/b": api.ErrNoent, "/d/b/c": api.ErrNoent, "/b/c": api.ErrNoent, "/x/x": api.ErrNoent} {
		if names, e := Kids(some(), path); e != want || len(names) != 0 {
			t.Error(path, names, e)
		}
	}
	if names, e := Kids(New(), "/"); e != api.OK || len(names) != 0 {
		t.Error(names, e)
	}
	for _, path := range wrongPaths() {
		if names, e := Kids(some(), path); e != api.ErrForm || len(names) != 0 {
			t.Errorf("%.20q %q %d", path, names, e)
		}
	}
	for name, l := range wrongTrees() {
		for _, path := range []string{"/", "/a", "/nope", "wrong"} {
			if names, e := Kids(l, path); e != api.ErrForm || len(names) != 0 {
				t.Error(name, path, names, e)
			}
		}
	}
	if names, e := Kids(full(512), "/d"); e != api.OK || len(names) != 510 || !slices.IsSorted(names) {
		t.Error(names, e)
	}
}

// P11.1
func TestLinks(t *testing.T) {
	for path, want := range map[string][]string{
		"/a": {"/a", "/d/b", "/z"}, "/d/b": {"/a", "/d/b", "/z"}, "/z": {"/a", "/d/b", "/z"}, "/d-": {"/d-", "/d0"}, "/d0": {"/d-", "/d0"}, "/a-b": {"/a-b"}, "/d/e/f/g": {"/d/e/f/g"},
		"/": nil, "/d": nil, "/x": nil, "/nope": nil, "/a/b": nil, "": nil, "a": nil, "//": nil,
	} {
		if paths := Links(some(), path); !slices.Equal(paths, want) {
			t.Error(path, paths)
		}
	}
	for name, l := range wrongTrees() {
		for _, path := range []string{"/", "/a", "/z", "/nope", ""} {
			if paths := Links(l, path); len(paths) != 0 {
				t.Error(name, path, paths)
			}
		}
	}
}

// P11.1
func TestSame(t *testing.T) {
	if !Same(some(), some()) || !Same(nil, nil) || !Same(nil, []api.Node{}) || !Same(New(), New()) || Same(some(), New()) || Same(New(), nil) || Same(some(), some()[:11]) {
		t.Error("other trees, or the same")
	}
	for i := range some() {
		for _, change := range []func(n *api.Node){
			func(n *api.Node) { n.Path += "x" }, func(n *api.Node) { n.Dir = !n.Dir }, func(n *api.Node) { n.Data += "x" }, func(n *api.Node) { n.First += "x" },
		} {
			l := some()
			change(&l[i])
			if Same(some(), l) || Same(l, some()) || !Same(l, slices.Clone(l)) {
				t.Error(i, l[i])
			}
		}
	}
}

// P11.2: each error of each kind.
func TestApplyErrors(t *testing.T) {
	for path, want := range map[string]api.Errno{"/a/b": api.ErrNotdir, "/a/b/c": api.ErrNotdir, "/a/b/c/d": api.ErrNotdir, "/d/b/c": api.ErrNotdir, "/q/a": api.ErrNoent, "/q/a/b/c": api.ErrNoent, "/d/q/a": api.ErrNoent, "/x/a/b": api.ErrNoent} {
		for _, o := range []api.Op{
			{Kind: api.Create, Path: path}, {Kind: api.Mkdir, Path: path}, {Kind: api.Unlink, Path: path}, {Kind: api.Rmdir, Path: path}, {Kind: api.Truncate, Path: path}, {Kind: api.Write, Path: path, Off: 256, Data: "x"},
			{Kind: api.Link, Path: path, Other: "/n"}, {Kind: api.Rename, Path: path, Other: "/n"}, {Kind: api.Link, Path: path, Other: "/q/n"}, {Kind: api.Rename, Path: path, Other: "/a"}, {Kind: api.Link, Path: "/a", Other: path}, {Kind: api.Rename, Path: "/a-b", Other: path},
		} {
			if l, e := Apply(some(), o); e != want || len(l) != 0 {
				t.Error(o, l, e)
			}
		}
	}
	for o, want := range map[api.Op]api.Errno{
		{Kind: api.Create, Path: "/a"}: api.ErrExist, {Kind: api.Create, Path: "/d"}: api.ErrExist, {Kind: api.Create, Path: "/d/e/f/g"}: api.ErrExist, {Kind: api.Mkdir, Path: "/a"}: api.ErrExist, {Kind: api.Mkdir, Path: "/d/e"}: api.ErrExist,
		{Kind: api.Link, Path: "/q", Other: "/n"}: api.ErrNoent, {Kind: api.Link, Path: "/q", Other: "/a/b"}: api.ErrNoent, {Kind: api.Link, Path: "/q", Other: "/q"}: api.ErrNoent, {Kind: api.Link, Path: "/d", Other: "/n"}: api.ErrIsdir, {Kind: api.Link, Path: "/x", Other: "/a/b"}: api.ErrIsdir,
		{Kind: api.Link, Path: "/a", Other: "/a"}: api.ErrExist, {Kind: api.Link, Path: "/a", Other: "/d"}: api.ErrExist, {Kind: api.Link, Path: "/a", Other: "/d/b"}: api.ErrExist, {Kind: api.Link, Path: "/a", Other: "/a/b"}: api.ErrNotdir, {Kind: api.Link, Path: "/a", Other: "/q/b"}: api.ErrNoent,
		{Kind: api.Rename, Path: "/q", Other: "/n"}: api.ErrNoent, {Kind: api.Rename, Path: "/q", Other: "/a"}: api.ErrNoent, {Kind: api.Rename, Path: "/d", Other: "/n"}: api.ErrIsdir, {Kind: api.Rename, Path: "/x", Other: "/x/n"}: api.ErrIsdir, {Kind: api.Rename, Path: "/x", Other: "/a/n"}: api.ErrIsdir,
		{Kind: api.Rename, Path: "/a", Other: "/a"}: api.ErrExist, {Kind: api.Rename, Path: "/a", Other: "/z"}: api.ErrExist, {Kind: api.Rename, Path: "/a", Other: "/x"}: api.ErrExist, {Kind: api.Rename, Path: "/a", Other: "/a/b"}: api.ErrNotdir, {Kind: api.Rename, Path: "/a", Other: "/q/b"}: api.ErrNoent,
		{Kind: api.Unlink, Path: "/q"}: api.ErrNoent, {Kind: api.Unlink, Path: "/d"}: api.ErrIsdir, {Kind: api.Unlink, Path: "/x"}: api.ErrIsdir, {Kind: api.Rmdir, Path: "/q"}: api.ErrNoent, {Kind: api.Rmdir, Path: "/a"}: api.ErrNotdir, {Kind: api.Rmdir, Path: "/d/b"}: api.ErrNotdir,
		{Kind: api.Rmdir, Path: "/d"}: api.ErrNotempty, {Kind: api.Rmdir, Path: "/d/e"}: api.ErrNotempty, {Kind: api.Rmdir, Path: "/d/e/f"}: api.ErrNotempty,
		{Kind: api.Write, Path: "/q", Off: 9, Data: "x"}: api.ErrNoent, {Kind: api.Write, Path: "/d", Off: 9, Data: "x"}: api.ErrIsdir, {Kind: api.Write, Path: "/a", Off: 5, Data: "x"}: api.ErrRange, {Kind: api.Write, Path: "/a-b", Off: 1, Data: "x"}: api.ErrRange, {Kind: api.Write, Path: "/z", Off: 256, Data: "x"}: api.ErrRange,
		{Kind: api.Truncate, Path: "/q"}: api.ErrNoent, {Kind: api.Truncate, Path: "/d"}: api.ErrIsdir,
	} {
		if l, e := Apply(some(), o); e != want || len(l) != 0 {
			t.Error(o, l, e)
		}
	}
}

// P11.2: ErrForm of what is not right, whatever else is wrong.
func TestApplyForm(t *testing.T) {
	for name, l := range wrongTrees() {
		for _, o := range []api.Op{{}, {Kind: api.Create, Path: "/n"}, {Kind: api.Unlink, Path: "/a"}, {Kind: api.Rmdir, Path: "/q"}, {Kind: api.Write, Path: "/a", Off: 256, Data: "x"}} {
			if l, e := Apply(l, o); e != api.ErrForm || len(l) != 0 {
				t.Error(name, o, l, e)
			}
		}
	}
	for _, o := range wrongOps() {
		for _, l := range [][]api.Node{some(), New(), full(512), nil} {
			if l, e := Apply(l, o); e != api.ErrForm || len(l) != 0 {
				t.Errorf("%d %.20q %.20q %v %d", o.Kind, o.Path, o.Other, l, e)
			}
		}
	}
}

// done fails the test unless an operation makes one tree another one, and leaves the first as it was.
func done(t *testing.T, was []api.Node, o api.Op, want ...api.Node) {
	t.Helper()
	room := apart(was)
	l, e := Apply(room, o)
	if e != api.OK || !slices.Equal(l, want) || !Right(l) {
		t.Error(o, l, e)
	}
	untouched(t, room, was)
	clear(l[:cap(l)])
	untouched(t, room, was)
}

// P11.2, P11.4: each kind.
func TestApply(t *testing.T) {
	two := []api.Node{dir("/"), leaf("/b", "text"), dir("/d"), again("/d/c", "/b", "text"), again("/e", "/b", "text")}
	done(t, New(), api.Op{Kind: api.Create, Path: "/a"}, dir("/"), leaf("/a", ""))
	done(t, New(), api.Op{Kind: api.Mkdir, Path: "/a"}, dir("/"), dir("/a"))
	done(t, two, api.Op{Kind: api.Create, Path: "/d-"}, two[0], two[1], two[2], leaf("/d-", ""), two[3], two[4])
	done(t, two, api.Op{Kind: api.Mkdir, Path: "/d/d"}, two[0], two[1], two[2], two[3], dir("/d/d"), two[4])
	done(t, two, api.Op{Kind: api.Link, Path: "/e", Other: "/f"}, append(two[:5:5], again("/f", "/b", "text"))...)
	done(t, two, api.Op{Kind: api.Link, Path: "/e", Other: "/a"}, dir("/"), leaf("/a", "text"), again("/b", "/a", "text"), dir("/d"), again("/d/c", "/a", "text"), again("/e", "/a", "text"))
	done(t, two, api.Op{Kind: api.Rename, Path: "/b", Other: "/f"}, dir("/"), dir("/d"), leaf("/d/c", "text"), again("/e", "/d/c", "text"), again("/f", "/d/c", "text"))
	done(t, two, api.Op{Kind: api.Rename, Path: "/e", Other: "/d/a"}, dir("/"), leaf("/b", "text"), dir("/d"), again("/d/a", "/b", "text"), again("/d/c", "/b", "text"))
	done(t, two, api.Op{Kind: api.Rename, Path: "/d/c", Other: "/a"}, dir("/"), leaf("/a", "text"), again("/b", "/a", "text"), dir("/d"), again("/e", "/a", "text"))
	done(t, two, api.Op{Kind: api.Rename, Path: "/b", Other: "/d/b"}, dir("/"), dir("/d"), leaf("/d/b", "text"), again("/d/c", "/d/b", "text"), again("/e", "/d/b", "text"))
	done(t, two, api.Op{Kind: api.Unlink, Path: "/b"}, dir("/"), dir("/d"), leaf("/d/c", "text"), again("/e", "/d/c", "text"))
	done(t, two, api.Op{Kind: api.Unlink, Path: "/d/c"}, two[0], two[1], two[2], two[4])
	done(t, []api.Node{dir("/"), leaf("/a", "x")}, api.Op{Kind: api.Unlink, Path: "/a"}, dir("/"))
	done(t, []api.Node{dir("/"), dir("/a"), leaf("/a-", ""), leaf("/a0", ""), dir("/aa")}, api.Op{Kind: api.Rmdir, Path: "/a"}, dir("/"), leaf("/a-", ""), leaf("/a0", ""), dir("/aa"))
	done(t, two, api.Op{Kind: api.Truncate, Path: "/e"}, dir("/"), leaf("/b", ""), dir("/d"), again("/d/c", "/b", ""), again("/e", "/b", ""))
	done(t, []api.Node{dir("/"), leaf("/a", ""), leaf("/b", "x")}, api.Op{Kind: api.Truncate, Path: "/a"}, dir("/"), leaf("/a", ""), leaf("/b", "x"))
	for o, want := range map[api.Op]string{
		{Off: 0, Data: "x"}: "xext", {Off: 1, Data: "xy"}: "txyt", {Off: 3, Data: "x"}: "texx", {Off: 3, Data: "xyz"}: "texxyz", {Off: 4, Data: "xyz"}: "textxyz", {Off: 0, Data: "more text"}: "more text", {Off: 0, Data: "text"}: "text", {Off: 4, Data: long[:64]}: "text" + long[:64],
	} {
		o.Kind, o.Path = api.Write, "/d/c"
		done(t, two, o, dir("/"), leaf("/b", want), dir("/d"), again("/d/c", "/b", want), again("/e", "/b", want))
	}
}

// P11.2: example 1.
func TestExample(t *testing.T) {
	l, errs := Fold(New(), []api.Op{{Kind: api.Create, Path: "/a"}, {Kind: api.Link, Path: "/a", Other: "/b"}, {Kind: api.Write, Path: "/b", Data: "x"}})
	if n, ok := Get(l, "/a"); !ok || n.Data != "x" || !slices.Equal(errs, make([]api.Errno, 3)) {
		t.Error(l, errs)
	}
}

// P11.2: the edges of what may be written.
func TestWriteEdges(t *testing.T) {
	for size := range api.MaxSize + 1 {
		was := []api.Node{dir("/"), leaf("/a", long[:size])}
		for _, off := range []int{0, 1, 31, 32, 191, 192, 193, 254, 255, 256, size - 64, size - 1, size, size + 1} {
			for _, many := range []int{1, 2, 63, 64} {
				if off < 0 || off > api.MaxSize {
					continue
				}
				data := strings.Repeat("#", many)
				l, e := Apply(was, api.Op{Kind: api.Write, Path: "/a", Off: off, Data: data})
				if off > size || off+many > api.MaxSize {
					if e != api.ErrRange || len(l) != 0 {
						t.Error(size, off, many, e)
					}
					continue
				}
				want := []byte(long[:max(size, off+many)])
				copy(want[off:], data)
				if e != api.OK || len(l) != 2 || l[1] != leaf("/a", string(want)) {
					t.Error(size, off, many, e)
				}
			}
		}
	}
}

// P11.2, P11.4: there are never more than 512 nodes.
func TestFull(t *testing.T) {
	for _, o := range []api.Op{{Kind: api.Create, Path: "/d/n"}, {Kind: api.Mkdir, Path: "/n"}, {Kind: api.Link, Path: "/d/1000", Other: "/d/n"}} {
		if l, e := Apply(full(511), o); e != api.OK || len(l) != 512 || !Right(l) {
			t.Error(o, len(l), e)
		}
		if l, e := Apply(full(512), o); e != api.ErrFull || len(l) != 0 {
			t.Error(o, len(l), e)
		}
	}
	for o, want := range map[api.Op]api.Errno{
		{Kind: api.Rename, Path: "/d/1000", Other: "/n"}: api.OK, {Kind: api.Unlink, Path: "/d/1000"}: api.OK, {Kind: api.Write, Path: "/d/1000", Data: "x"}: api.OK, {Kind: api.Truncate, Path: "/d/1000"}: api.OK,
		{Kind: api.Create, Path: "/d"}: api.ErrExist, {Kind: api.Mkdir, Path: "/d/1000"}: api.ErrExist, {Kind: api.Create, Path: "/d/1000/n"}: api.ErrNotdir, {Kind: api.Mkdir, Path: "/q/n"}: api.ErrNoent,
		{Kind: api.Link, Path: "/d/1000", Other: "/d"}: api.ErrExist, {Kind: api.Link, Path: "/d", Other: "/n"}: api.ErrIsdir, {Kind: api.Rmdir, Path: "/d"}: api.ErrNotempty,
	} {
		if l, e := Apply(full(512), o); e != want || e == api.OK && !Right(l) {
			t.Error(o, len(l), e)
		}
	}
}

// P11.3, P11.5: what can't be done is as if it were not there.
func TestFold(t *testing.T) {
	l := []api.Op{
		{Kind: api.Mkdir, Path: "/m"}, {Kind: api.Mkdir, Path: "/m"}, {Kind: api.Create, Path: "/m/f"}, {}, {Kind: api.Write, Path: "/m/f", Data: "one"}, {Kind: api.Write, Path: "/m/f", Off: 4, Data: "two"}, {Kind: api.Rmdir, Path: "/m"},
		{Kind: api.Rename, Path: "/m/f", Other: "/g"}, {Kind: api.Rmdir, Path: "/m"}, {Kind: api.Unlink, Path: "/m/f"}, {Kind: api.Create, Path: "/g/x"}, {Kind: 9, Path: "/g"}, {Kind: api.Link, Path: "/g", Other: "/"},
	}
	want := []api.Errno{api.OK, api.ErrExist, api.OK, api.ErrForm, api.OK, api.ErrRange, api.ErrNotempty, api.OK, api.OK, api.ErrNoent, api.ErrNotdir, api.ErrForm, api.ErrForm}
	got, errs := Fold(New(), l)
	if !slices.Equal(got, []api.Node{dir("/"), leaf("/g", "one")}) || !slices.Equal(errs, want) {
		t.Error(got, errs)
	}
	for _, l := range [][]api.Op{nil, {}, {{}}, {{Kind: api.Unlink, Path: "/nope"}}} {
		room := apart(some())
		got, errs := Fold(room, l)
		if !slices.Equal(got, some()) || len(errs) != len(l) || slices.Contains(errs, api.OK) {
			t.Error(got, errs)
		}
		clear(got[:cap(got)])
		untouched(t, room, some())
	}
	for name, wrong := range wrongTrees() {
		for many := range 4 {
			got, errs := Fold(wrong, l[:many])
			if len(got) != 0 || !slices.Equal(errs, slices.Repeat([]api.Errno{api.ErrForm}, many)) {
				t.Error(name, got, errs)
			}
		}
	}
}

// P11.6: what is made and removed leaves all as it was, also the First of other names.
func TestMadeAndRemoved(t *testing.T) {
	for _, l := range [][]api.Op{
		{{Kind: api.Create, Path: "/n"}, {Kind: api.Unlink, Path: "/n"}}, {{Kind: api.Mkdir, Path: "/x/n"}, {Kind: api.Rmdir, Path: "/x/n"}}, {{Kind: api.Link, Path: "/z", Other: "/0"}, {Kind: api.Unlink, Path: "/0"}},
		{{Kind: api.Rename, Path: "/a", Other: "/zz"}, {Kind: api.Rename, Path: "/zz", Other: "/a"}}, {{Kind: api.Link, Path: "/a", Other: "/0"}, {Kind: api.Unlink, Path: "/a"}, {Kind: api.Link, Path: "/z", Other: "/a"}, {Kind: api.Unlink, Path: "/0"}},
		{{Kind: api.Create, Path: "/n"}, {Kind: api.Write, Path: "/n", Data: "x"}, {Kind: api.Unlink, Path: "/n"}}, {{Kind: api.Write, Path: "/a-b", Data: "x"}, {Kind: api.Truncate, Path: "/a-b"}},
	} {
		if got, errs := Fold(some(), l); !Same(got, some()) || !slices.Equal(errs, make([]api.Errno, len(l))) {
			t.Error(l, got, errs)
		}
	}
}

// P3 of the rules: what is handed in stays as it is, what is answered is the caller's.
func TestNothingChanges(t *testing.T) {
	room := apart(some())
	kids, _ := Kids(room, "/")
	links := Links(room, "/z")
	n, _ := Get(room, "/a")
	kids[0], links[0], n.Data = "changed", "changed", "changed"
	Same(room, room)
	Right(room)
	for _, o := range wrongOps() {
		Apply(room, o)
	}
	untouched(t, room, some())
	if names, _ := Kids(room, "/"); names[0] != "a" || Links(room, "/a")[0] != "/a" {
		t.Error("what is answered is kept")
	}
}
