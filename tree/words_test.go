package tree

import (
	"math/rand"
	"slices"
	"sort"
	"strings"
	"testing"

	"selvedge/api"
)

// pathByWords says by the words alone whether a text is a path.
func pathByWords(s string) bool {
	if s == "/" {
		return true
	}
	if s == "" || s[0] != '/' {
		return false
	}
	names := strings.Split(s[1:], "/")
	for _, name := range names {
		if len(name) < 1 || len(name) > 7 || strings.Trim(name, "abcdefghijklmnopqrstuvwxyz0123456789-") != "" {
			return false
		}
		for i := range len(name) {
			if !strings.Contains("abcdefghijklmnopqrstuvwxyz0123456789-", name[i:i+1]) {
				return false
			}
		}
	}
	return len(names) <= 4
}

// aheadByWords is what stands ahead of a path's last name.
func aheadByWords(path string) string {
	names := strings.Split(path, "/")
	if len(names) == 2 {
		return "/"
	}
	return strings.Join(names[:len(names)-1], "/")
}

// rightByWords says by the words alone whether nodes are a tree.
func rightByWords(t []api.Node) bool {
	if len(t) > 512 || len(t) == 0 || t[0].Path != "/" || !t[0].Dir {
		return false
	}
	there := func(path string, want func(n api.Node) bool) bool {
		return slices.ContainsFunc(t, func(n api.Node) bool { return n.Path == path && want(n) })
	}
	for i, n := range t {
		if !pathByWords(n.Path) || i > 0 && n.Path <= t[i-1].Path {
			return false
		}
		if i > 0 && !there(aheadByWords(n.Path), func(n api.Node) bool { return n.Dir }) {
			return false
		}
		if n.Dir && (n.Data != "" || n.First != n.Path) {
			return false
		}
		if !n.Dir && (len(n.Data) > 256 || n.First > n.Path || !there(n.First, func(f api.Node) bool { return !f.Dir && f.First == f.Path && f.Data == n.Data })) {
			return false
		}
	}
	return true
}

// world is a tree told otherwise: paths of directories, paths of files with what they are called, and the data of these.
type world struct {
	dirs  map[string]bool
	files map[string]int
	data  map[int]string
	next  int
}

func newWorld() *world {
	return &world{map[string]bool{"/": true}, map[string]int{}, map[int]string{}, 0}
}

// nodes are the world's, as the words say.
func (w *world) nodes() []api.Node {
	var t []api.Node
	for path := range w.dirs {
		t = append(t, api.Node{Path: path, Dir: true, First: path})
	}
	for path, id := range w.files {
		first := path
		for other, its := range w.files {
			if its == id && other < first {
				first = other
			}
		}
		t = append(t, api.Node{Path: path, Data: w.data[id], First: first})
	}
	sort.Slice(t, func(i, j int) bool { return t[i].Path < t[j].Path })
	return t
}

// finding has the errors of it.
func (w *world) finding(path string) api.Errno {
	e := api.OK
	for at := aheadByWords(path); at != "/"; at = aheadByWords(at) {
		if _, ok := w.files[at]; ok {
			return api.ErrNotdir
		}
		if !w.dirs[at] {
			e = api.ErrNoent
		}
	}
	return e
}

func (w *world) there(path string) bool {
	_, ok := w.files[path]
	return ok || w.dirs[path]
}

// wrong is the error of an operation that is right.
func (w *world) wrong(o api.Op) api.Errno {
	if e := w.finding(o.Path); e != api.OK {
		return e
	}
	if o.Kind == api.Create || o.Kind == api.Mkdir {
		if w.there(o.Path) {
			return api.ErrExist
		}
		return api.OK
	}
	if !w.there(o.Path) {
		return api.ErrNoent
	}
	if o.Kind == api.Rmdir {
		if !w.dirs[o.Path] {
			return api.ErrNotdir
		}
		for _, n := range w.nodes() {
			if strings.HasPrefix(n.Path, o.Path+"/") {
				return api.ErrNotempty
			}
		}
		return api.OK
	}
	if w.dirs[o.Path] {
		return api.ErrIsdir
	}
	switch o.Kind {
	case api.Link, api.Rename:
		if e := w.finding(o.Other); e != api.OK {
			return e
		}
		if w.there(o.Other) {
			return api.ErrExist
		}
	case api.Write:
		if o.Off > len(w.data[w.files[o.Path]]) || o.Off+len(o.Data) > 256 {
			return api.ErrRange
		}
	}
	return api.OK
}

// do does what may be.
func (w *world) do(o api.Op) {
	id := w.files[o.Path]
	switch o.Kind {
	case api.Create:
		w.next++
		w.files[o.Path], w.data[w.next] = w.next, ""
	case api.Mkdir:
		w.dirs[o.Path] = true
	case api.Link:
		w.files[o.Other] = id
	case api.Rename:
		w.files[o.Other] = id
		delete(w.files, o.Path)
	case api.Unlink:
		delete(w.files, o.Path)
	case api.Rmdir:
		delete(w.dirs, o.Path)
	case api.Truncate:
		w.data[id] = ""
	case api.Write:
		b := []byte(w.data[id])
		for i := range len(o.Data) {
			if o.Off+i == len(b) {
				b = append(b, 0)
			}
			b[o.Off+i] = o.Data[i]
		}
		w.data[id] = string(b)
	}
}

// chanceOp is an operation, most often one that may be.
func chanceOp(chance *rand.Rand, t []api.Node) api.Op {
	path := func() string {
		p := t[chance.Intn(len(t))].Path
		if chance.Intn(3) > 0 && p != "/" || strings.Count(p, "/") == 4 {
			return p
		}
		return strings.TrimRight(p, "/") + "/" + []string{"a", "a-", "b", "z0", "abcdefg"}[chance.Intn(5)]
	}
	o := api.Op{Kind: api.OpKind(1 + chance.Intn(8)), Path: path()}
	switch o.Kind {
	case api.Link, api.Rename:
		o.Other = path()
	case api.Write:
		n, _ := Get(t, o.Path)
		o.Off = []int{0, len(n.Data), chance.Intn(len(n.Data) + 1), chance.Intn(257)}[chance.Intn(4)]
		o.Data = strings.Repeat(string(rune('a'+chance.Intn(26))), 1+chance.Intn(64))
	}
	return o
}

// P11.2, P11.3, P11.4, P11.5, E1, E6, E7: long rows of operations, against the words.
func TestAgainstTheWords(t *testing.T) {
	chance := rand.New(rand.NewSource(11))
	var errs [16]int
	for range 60 {
		w, is := newWorld(), New()
		var l []api.Op
		var all []api.Errno
		for range 150 {
			o := chanceOp(chance, is)
			want := w.wrong(o)
			room := apart(is)
			next, e := Apply(room, o)
			untouched(t, room, is)
			if e != want || e != api.OK && len(next) != 0 {
				t.Fatal(is, o, e, "not", want)
			}
			if e == api.OK {
				w.do(o)
				is = next
			}
			if !slices.Equal(is, w.nodes()) || !Right(is) || !rightByWords(is) {
				t.Fatal(o, is, "not", w.nodes())
			}
			errs[e]++
			l, all = append(l, o), append(all, e)
			asksAgainstTheWords(t, w, is, o.Path)
		}
		if folded, each := Fold(New(), l); !Same(folded, is) || !slices.Equal(each, all) {
			t.Fatal("folded otherwise")
		}
	}
	for _, e := range []api.Errno{api.OK, api.ErrRange, api.ErrNoent, api.ErrExist, api.ErrNotdir, api.ErrIsdir, api.ErrNotempty} {
		if errs[e] < 50 {
			t.Error("too few of", e, errs)
		}
	}
}

// asksAgainstTheWords asks what stands at a path.
func asksAgainstTheWords(t *testing.T, w *world, is []api.Node, path string) {
	t.Helper()
	n, ok := Get(is, path)
	if ok != w.there(path) || ok && (n.Dir != w.dirs[path] || n.Data != w.data[w.files[path]]) {
		t.Fatal(path, n)
	}
	var links, kids []string
	for _, other := range is {
		if other.Path != "/" && aheadByWords(other.Path) == path {
			kids = append(kids, other.Path[strings.LastIndex(other.Path, "/")+1:])
		}
		if id, file := w.files[other.Path]; file && id == w.files[path] {
			links = append(links, other.Path)
		}
	}
	want := api.OK
	switch {
	case !ok:
		want = api.ErrNoent
	case !n.Dir:
		want = api.ErrNotdir
	}
	if l, e := Kids(is, path); e != want || !slices.Equal(l, kids) {
		t.Fatal(path, l, e)
	}
	if l := Links(is, path); !slices.Equal(l, links) {
		t.Fatal(path, l)
	}
}

// P11.1: trees that were changed at some places, against the words.
func TestShakenAgainstTheWords(t *testing.T) {
	chance := rand.New(rand.NewSource(12))
	var how [2]int
	for range 20000 {
		l := some()
		for range 1 + chance.Intn(3) {
			shake(chance, &l)
		}
		right := rightByWords(l)
		if Right(l) != right {
			t.Fatal(l, "right:", right)
		}
		if right {
			how[1]++
			continue
		}
		how[0]++
		if next, e := Apply(l, api.Op{Kind: api.Create, Path: "/n"}); e != api.ErrForm || len(next) != 0 {
			t.Fatal(l, next, e)
		}
	}
	if how[0] < 1000 || how[1] < 1000 {
		t.Error("too few of one kind to tell anything:", how)
	}
}

// shake changes nodes at a place.
func shake(chance *rand.Rand, t *[]api.Node) {
	l := *t
	if len(l) == 0 {
		return
	}
	i := chance.Intn(len(l))
	path := func() string {
		return append([]string{"", "/d/a", "/d/e", "/e", "/a/", "/d/e/f/g/h"}, l[chance.Intn(len(l))].Path)[chance.Intn(7)]
	}
	switch chance.Intn(8) {
	case 0:
		l[i].Path = path()
	case 1:
		l[i].First = path()
	case 2:
		l[i].Data = l[chance.Intn(len(l))].Data
	case 3:
		l[i].Dir = !l[i].Dir
	case 4, 5:
		l = slices.Delete(l, i, i+1)
	case 6:
		l = slices.Insert(l, i, leaf(path(), ""))
	case 7:
		l = slices.Insert(l, i+1, leaf(strings.TrimRight(l[i].Path, "/")+"/a", ""))
	}
	*t = l
}

// P11.1: texts of all kinds, against the words.
func TestPathsAgainstTheWords(t *testing.T) {
	chance := rand.New(rand.NewSource(13))
	pieces := []string{"/", "/", "/", "a", "z", "0", "9", "-", "abc", "abcdefg", "A", ".", "_", " ", "\x00", "\xff", "é", "`", "{", ":", ","}
	many := 0
	for range 100000 {
		s := ""
		for range chance.Intn(9) {
			s += pieces[chance.Intn(len(pieces)*(1+chance.Intn(2))/2)]
		}
		names, e := Split(s)
		if (e == api.OK) != pathByWords(s) || e != api.OK && (e != api.ErrForm || len(names) != 0) {
			t.Fatalf("%q %q %d", s, names, e)
		}
		if e == api.OK && "/"+strings.Join(names, "/") != s {
			t.Fatalf("%q %q", s, names)
		}
		if o := (api.Op{Kind: api.Create, Path: s}); RightOp(o) != (pathByWords(s) && s != "/") {
			t.Fatalf("%q", s)
		}
		if e == api.OK {
			many++
		}
	}
	if many < 3000 {
		t.Error("too few paths to tell anything:", many)
	}
	for b := range 256 {
		s := "/a" + string([]byte{byte(b)})
		if _, e := Split(s); (e == api.OK) != pathByWords(s) {
			t.Errorf("%q", s)
		}
	}
}
