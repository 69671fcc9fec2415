package delta

import (
	"fmt"
	"math/rand"
	"slices"
	"sort"
	"strings"
	"testing"

	"selvedge/api"
	"selvedge/tree"
)

// The models here say by the chapter's words alone what is to be answered.

// keptByWords: is a path kept?
func keptByWords(a, b []api.Node, path string) bool {
	was, ok1 := tree.Get(a, path)
	is, ok2 := tree.Get(b, path)
	if !ok1 || !ok2 || was.Dir != is.Dir {
		return false
	}
	return was.Dir || slices.Equal(tree.Links(a, path), tree.Links(b, path))
}

// diffByWords goes through the words of P24.1, one by one.
func diffByWords(a, b []api.Node) []api.Op {
	var l []api.Op
	isDir := func(t []api.Node, path string) bool {
		n, ok := tree.Get(t, path)
		return ok && n.Dir
	}
	for _, n := range a {
		if !n.Dir && !keptByWords(a, b, n.Path) {
			l = append(l, api.Op{Kind: api.Unlink, Path: n.Path})
		}
	}
	for i := len(a) - 1; i >= 0; i-- {
		if a[i].Dir && !isDir(b, a[i].Path) {
			l = append(l, api.Op{Kind: api.Rmdir, Path: a[i].Path})
		}
	}
	for _, n := range b {
		if n.Dir && !isDir(a, n.Path) {
			l = append(l, api.Op{Kind: api.Mkdir, Path: n.Path})
		}
	}
	for _, n := range b {
		if n.Dir || n.First != n.Path || keptByWords(a, b, n.Path) {
			continue
		}
		l = append(l, api.Op{Kind: api.Create, Path: n.Path})
		for _, other := range b {
			if other.First == n.Path && other.Path != n.Path {
				l = append(l, api.Op{Kind: api.Link, Path: n.Path, Other: other.Path})
			}
		}
	}
	for _, n := range b {
		if n.Dir || n.First != n.Path {
			continue
		}
		then := ""
		if keptByWords(a, b, n.Path) {
			was, _ := tree.Get(a, n.Path)
			then = was.Data
		}
		if then == n.Data {
			continue
		}
		if then != "" {
			l = append(l, api.Op{Kind: api.Truncate, Path: n.Path})
		}
		for rest := n.Data; rest != ""; {
			piece := rest[:min(64, len(rest))]
			l = append(l, api.Op{Kind: api.Write, Path: n.Path, Off: len(n.Data) - len(rest), Data: piece})
			rest = rest[len(piece):]
		}
	}
	return l
}

// mergedByWords goes through the words of P24.3.
func mergedByWords(base, mine, theirs []api.Node) ([]api.Node, []string) {
	paths := map[string]bool{}
	for _, n := range slices.Concat(base, mine, theirs) {
		paths[n.Path] = true
	}
	// what stands there: nothing, a directory, a file with its data.
	what := func(t []api.Node, path string) string {
		n, ok := tree.Get(t, path)
		switch {
		case !ok:
			return "nothing"
		case n.Dir:
			return "dir"
		}
		return "file " + n.Data
	}
	stands, conflicts := map[string]string{}, map[string]bool{}
	for path := range paths {
		b, m, o := what(base, path), what(mine, path), what(theirs, path)
		switch {
		case m == o || o == b:
			stands[path] = m
		case m == b:
			stands[path] = o
		default:
			stands[path] = m
			conflicts[path] = true
		}
	}
	// Whatever is no directory has nothing below: again, until all is so.
	for again := true; again; {
		again = false
		for path, is := range stands {
			if is == "nothing" || path == "/" {
				continue
			}
			above := path[:strings.LastIndex(path, "/")]
			if above == "" {
				above = "/"
			}
			if stands[above] != "dir" {
				stands[path] = "nothing"
				conflicts[path] = true
				again = true
			}
		}
	}
	var t []api.Node
	for path, is := range stands {
		if data, ok := strings.CutPrefix(is, "file "); ok {
			t = append(t, leaf(path, data))
		} else if is == "dir" {
			t = append(t, dir(path))
		}
	}
	sort.Slice(t, func(i, j int) bool { return t[i].Path < t[j].Path })
	var l []string
	for path := range conflicts {
		l = append(l, path)
	}
	sort.Strings(l)
	return t, l
}

// lineByWords is an operation's line.
func lineByWords(o api.Op) string {
	words := []string{[]string{"", "create", "mkdir", "link", "unlink", "rmdir", "rename", "write", "cut"}[o.Kind], o.Path}
	if o.Kind == api.Link || o.Kind == api.Rename {
		words = append(words, o.Other)
	}
	if o.Kind == api.Write {
		words = append(words, fmt.Sprint(o.Off), quoteByWords(o.Data))
	}
	return strings.Join(words, " ")
}

func quoteByWords(s string) string {
	text := `"`
	for _, c := range []byte(s) {
		if c < 33 || c > 126 || c == '"' || c == '%' {
			text += fmt.Sprintf("%%%02x", c)
		} else {
			text += string(rune(c))
		}
	}
	return text + `"`
}

// someTree is a tree by chance.
func someTree(r *rand.Rand, from []api.Node, steps int) []api.Node {
	var l []api.Op
	for range steps {
		l = append(l, someOp(r))
	}
	t, _ := tree.Fold(from, l)
	return t
}

// someOp is an operation by chance, of few paths, so that much of it can be done.
func someOp(r *rand.Rand) api.Op {
	names := []string{"/a", "/b", "/d", "/d-e"}
	path := func() string {
		p := names[r.Intn(len(names))]
		for r.Intn(2) == 0 && strings.Count(p, "/") < 4 {
			p += []string{"/a", "/d", "/x"}[r.Intn(3)]
		}
		return p
	}
	kinds := []api.OpKind{api.Create, api.Create, api.Mkdir, api.Mkdir, api.Mkdir, api.Link, api.Link, api.Unlink, api.Rmdir, api.Rename, api.Write, api.Write, api.Write, api.Truncate}
	o := api.Op{Kind: kinds[r.Intn(len(kinds))], Path: path()}
	switch o.Kind {
	case api.Link, api.Rename:
		o.Other = path()
	case api.Write:
		o.Data = strings.Repeat(string([]byte{byte(r.Intn(256))}), 1+r.Intn(64))
		o.Off = r.Intn(3) * r.Intn(60)
	}
	return o
}

// P24.1, P24.4, P24.5
func TestDiffByChance(t *testing.T) {
	r := rand.New(rand.NewSource(1))
	links, turned := 0, 0
	for range 3000 {
		a := someTree(r, tree.New(), r.Intn(60))
		b := someTree(r, a, r.Intn(20))
		if r.Intn(3) == 0 {
			b = someTree(r, tree.New(), r.Intn(60))
		}
		l := differs(t, a, b)
		for _, o := range l {
			if o.Kind == api.Link {
				links++
			}
			if was, ok := tree.Get(a, o.Path); ok && was.Dir == (o.Kind == api.Create) && (o.Kind == api.Create || o.Kind == api.Mkdir) {
				turned++
			}
		}
		for _, same := range [][]api.Node{a, b} {
			if l := differs(t, same, same); len(l) != 0 {
				t.Error(same, l)
			}
		}
	}
	if links < 100 || turned < 100 {
		t.Error("too few", links, turned)
	}
}

// differs fails the test, unless all that is asked of two trees is as the words say; it answers Diff.
func differs(t *testing.T, a, b []api.Node) []api.Op {
	t.Helper()
	l, e := Diff(a, b)
	if e != api.OK || !slices.Equal(l, diffByWords(a, b)) {
		t.Error("Diff", a, b, e, l)
	}
	got, errs := tree.Fold(a, l)
	if !tree.Same(got, b) || slices.ContainsFunc(errs, func(e api.Errno) bool { return e != api.OK }) {
		t.Error("Fold", a, b, errs, got)
	}
	var want []string
	for _, n := range a {
		if keptByWords(a, b, n.Path) {
			want = append(want, n.Path)
		}
	}
	if kept, e := Kept(a, b); e != api.OK || !slices.Equal(kept, want) {
		t.Error("Kept", a, b, e, kept)
	}
	return l
}

// alone is a tree in which each file has one path.
func alone(t []api.Node) []api.Node {
	t = slices.Clone(t)
	for i := range t {
		t[i].First = t[i].Path
	}
	return t
}

// P24.3, P24.6
func TestMergeByChance(t *testing.T) {
	r := rand.New(rand.NewSource(2))
	fought, dropped := 0, 0
	for range 3000 {
		base := alone(someTree(r, tree.New(), r.Intn(50)))
		mine, theirs := alone(someTree(r, base, r.Intn(40))), alone(someTree(r, base, r.Intn(40)))
		got, conflicts := merges(t, base, mine, theirs)
		for _, path := range conflicts {
			fought++
			if _, ok := tree.Get(mine, path); !ok && !slices.ContainsFunc(got, func(n api.Node) bool { return n.Path == path }) {
				dropped++
			}
		}
		for _, c := range [][4][]api.Node{{base, mine, base, mine}, {base, base, theirs, theirs}, {mine, theirs, theirs, theirs}, {base, base, base, base}} {
			if got, conflicts := merges(t, c[0], c[1], c[2]); !tree.Same(got, c[3]) || len(conflicts) != 0 {
				t.Error(c, got, conflicts)
			}
		}
	}
	if fought < 500 || dropped < 100 {
		t.Error("too few", fought, dropped)
	}
}

// merges fails the test, unless Merge is as the words say; it answers that.
func merges(t *testing.T, base, mine, theirs []api.Node) ([]api.Node, []string) {
	t.Helper()
	got, conflicts, e := Merge(base, mine, theirs)
	want, fights := mergedByWords(base, mine, theirs)
	if e != api.OK || !slices.Equal(got, want) || !slices.Equal(conflicts, fights) {
		t.Error("Merge", base, mine, theirs, e, got, conflicts, "not", want, fights)
	}
	if !tree.Right(got) {
		t.Error("not right", got)
	}
	return got, conflicts
}

// P24.2
func TestLinesByChance(t *testing.T) {
	r := rand.New(rand.NewSource(3))
	for range 3000 {
		var l []api.Op
		text, bytes := "", 0
		for range r.Intn(9) {
			o := someOp(r)
			l = append(l, o)
			text += lineByWords(o) + "\n"
			bytes += len(o.Data)
		}
		if got, e := Print(l); e != api.OK || got != text {
			t.Error(l, e, got)
		}
		if got, e := Parse(text); e != api.OK || !slices.Equal(got, l) {
			t.Error(text, e, got)
		}
		if Size(l) != bytes {
			t.Error(l, Size(l))
		}
		spoilt(t, r, text)
	}
}

// spoilt changes a text in a byte: what Parse takes is printed so.
func spoilt(t *testing.T, r *rand.Rand, text string) {
	t.Helper()
	const odd = "\x00 \n\"%/-0129aAfwyz\x7f\xff"
	at, by := r.Intn(len(text)+1), string([]byte{odd[r.Intn(len(odd))]})
	for _, s := range []string{text[:at] + by + text[at:], text[:at] + by + text[min(at+1, len(text)):], text[:at] + text[min(at+1, len(text)):], text[:at]} {
		if l, e := Parse(s); e == api.OK {
			if again, e := Print(l); e != api.OK || again != s {
				t.Errorf("%q is taken as %q", s, again)
			}
		} else if e != api.ErrForm || l != nil {
			t.Errorf("%q %v %v", s, l, e)
		}
		if in, e := Unquote(s); e == api.OK {
			if Quote(in) != s {
				t.Errorf("%q is taken as %q", s, in)
			}
		} else if e != api.ErrForm || in != "" {
			t.Errorf("%q %q %v", s, in, e)
		}
	}
}

// P24.2
func TestQuotesByChance(t *testing.T) {
	r := rand.New(rand.NewSource(4))
	for range 5000 {
		b := make([]byte, r.Intn(20))
		for i := range b {
			b[i] = byte(r.Intn(256))
			if r.Intn(3) == 0 {
				b[i] = "%\" 2f~!"[r.Intn(7)]
			}
		}
		s := quoteByWords(string(b))
		if Quote(string(b)) != s {
			t.Errorf("%q %s", b, Quote(string(b)))
		}
		if got, e := Unquote(s); e != api.OK || got != string(b) {
			t.Errorf("%q %s %q", b, s, got)
		}
		spoilt(t, r, s)
	}
}
