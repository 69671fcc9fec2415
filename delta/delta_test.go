package delta

import (
	"math"
	"slices"
	"strings"
	"testing"

	"selvedge/api"
	"selvedge/tree"
)

func dir(path string) api.Node { return api.Node{Path: path, Dir: true, First: path} }

func leaf(path, data string) api.Node { return api.Node{Path: path, Data: data, First: path} }

// name is one more path of a file.
func name(path, first, data string) api.Node { return api.Node{Path: path, Data: data, First: first} }

// with is a tree of a root and some nodes.
func with(l ...api.Node) []api.Node { return append([]api.Node{dir("/")}, l...) }

func op(k api.OpKind, path string) api.Op { return api.Op{Kind: k, Path: path} }

func link(path, other string) api.Op { return api.Op{Kind: api.Link, Path: path, Other: other} }

func write(path string, off int, data string) api.Op {
	return api.Op{Kind: api.Write, Path: path, Off: off, Data: data}
}

// wrongTrees are nodes that are no tree.
func wrongTrees() [][]api.Node {
	l := [][]api.Node{
		nil, {}, {leaf("/", "")}, {dir("/a")}, {{}}, {{Path: "/", Dir: true}}, with(dir("/")), with(leaf("/b", ""), leaf("/a", "")), with(leaf("/a", ""), leaf("/a", "")), with(leaf("a", "")), with(leaf("/A", "")), with(leaf("/a/b", "")),
		with(leaf("/a", ""), leaf("/a/b", "")), with(name("/a", "/b", "x"), leaf("/b", "x")), with(leaf("/a", "x"), name("/b", "/a", "y")), with(name("/a", "/n", "")), with(leaf("/a", strings.Repeat("x", 257))),
		with(api.Node{Path: "/a", Dir: true, Data: "x", First: "/a"}), with(api.Node{Path: "/a", Dir: true, First: "/"}), with(dir("/a"), dir("/a/b"), dir("/a/b/c"), dir("/a/b/c/d"), dir("/a/b/c/d/e")), with(leaf("/longerst", "")),
	}
	return append(l, many(513, ""))
}

// many is a tree of so many nodes, but for what may be; each file has some data.
func many(nodes int, data string) []api.Node {
	t := with()
	for i := 1; i < nodes; i++ {
		t = append(t, leaf("/f"+string([]byte{byte('a' + i/100), byte('0' + i/10%10), byte('0' + i%10)}), data))
	}
	return t
}

// P24.1
func TestDiff(t *testing.T) {
	long := strings.Repeat("0123456789abcdef", 16)
	for _, c := range []struct {
		name string
		a, b []api.Node
		want []api.Op
	}{
		{"the example", with(leaf("/a", "x")), with(leaf("/a", "y")), []api.Op{op(api.Truncate, "/a"), write("/a", 0, "y")}},
		{"nothing", with(), with(), nil},
		{"a file", with(), with(leaf("/a", "")), []api.Op{op(api.Create, "/a")}},
		{"a file less", with(leaf("/a", "x")), with(), []api.Op{op(api.Unlink, "/a")}},
		{"a file with bytes", with(), with(leaf("/a", "x")), []api.Op{op(api.Create, "/a"), write("/a", 0, "x")}},
		{"bytes for none", with(leaf("/a", "")), with(leaf("/a", "x")), []api.Op{write("/a", 0, "x")}},
		{"none for bytes", with(leaf("/a", "x")), with(leaf("/a", "")), []api.Op{op(api.Truncate, "/a")}},
		{"the same bytes", with(leaf("/a", "x")), with(leaf("/a", "x")), nil},
		{"64 bytes", with(), with(leaf("/a", long[:64])), []api.Op{op(api.Create, "/a"), write("/a", 0, long[:64])}},
		{"65 bytes", with(), with(leaf("/a", long[:65])), []api.Op{op(api.Create, "/a"), write("/a", 0, long[:64]), write("/a", 64, long[64:65])}},
		{"256 bytes", with(leaf("/a", "-")), with(leaf("/a", long)), []api.Op{op(api.Truncate, "/a"), write("/a", 0, long[:64]), write("/a", 64, long[64:128]), write("/a", 128, long[128:192]), write("/a", 192, long[192:])}},
		{"a byte more", with(leaf("/a", long[:64])), with(leaf("/a", long[:65])), []api.Op{op(api.Truncate, "/a"), write("/a", 0, long[:64]), write("/a", 64, long[64:65])}},
		{"directories", with(dir("/a"), dir("/a-b"), dir("/a/b")), with(dir("/c"), dir("/c-d"), dir("/c/d")), []api.Op{op(api.Rmdir, "/a/b"), op(api.Rmdir, "/a-b"), op(api.Rmdir, "/a"), op(api.Mkdir, "/c"), op(api.Mkdir, "/c-d"), op(api.Mkdir, "/c/d")}},
		{"files of directories", with(dir("/a"), leaf("/a/x", "1"), leaf("/b", "2")), with(dir("/c"), leaf("/c/x", "1"), leaf("/d", "2")), []api.Op{
			op(api.Unlink, "/a/x"), op(api.Unlink, "/b"), op(api.Rmdir, "/a"), op(api.Mkdir, "/c"), op(api.Create, "/c/x"), op(api.Create, "/d"), write("/c/x", 0, "1"), write("/d", 0, "2")}},
		{"a directory for a file", with(leaf("/a", "x")), with(dir("/a"), leaf("/a/b", "")), []api.Op{op(api.Unlink, "/a"), op(api.Mkdir, "/a"), op(api.Create, "/a/b")}},
		{"a file for a directory", with(dir("/a"), leaf("/a/b", "")), with(leaf("/a", "x")), []api.Op{op(api.Unlink, "/a/b"), op(api.Rmdir, "/a"), op(api.Create, "/a"), write("/a", 0, "x")}},
		{"a name more", with(leaf("/b", "x")), with(leaf("/b", "x"), name("/c", "/b", "x")), []api.Op{op(api.Unlink, "/b"), op(api.Create, "/b"), link("/b", "/c"), write("/b", 0, "x")}},
		{"a name less", with(leaf("/b", "x"), name("/c", "/b", "x")), with(leaf("/b", "x")), []api.Op{op(api.Unlink, "/b"), op(api.Unlink, "/c"), op(api.Create, "/b"), write("/b", 0, "x")}},
		{"another least name", with(leaf("/b", "x")), with(leaf("/a", "x"), name("/b", "/a", "x")), []api.Op{op(api.Unlink, "/b"), op(api.Create, "/a"), link("/a", "/b"), write("/a", 0, "x")}},
		{"the same names", with(leaf("/a", "x"), name("/b", "/a", "x"), name("/c", "/a", "x")), with(leaf("/a", "y"), name("/b", "/a", "y"), name("/c", "/a", "y")), []api.Op{op(api.Truncate, "/a"), write("/a", 0, "y")}},
		{"two of one", with(leaf("/a", "x"), name("/b", "/a", "x")), with(leaf("/a", "x"), leaf("/b", "x")), []api.Op{op(api.Unlink, "/a"), op(api.Unlink, "/b"), op(api.Create, "/a"), op(api.Create, "/b"), write("/a", 0, "x"), write("/b", 0, "x")}},
		{"other pairs", with(leaf("/a", "1"), leaf("/b", "2"), name("/c", "/a", "1"), name("/d", "/b", "2")), with(leaf("/a", "1"), name("/b", "/a", "1"), leaf("/c", "2"), name("/d", "/c", "2")), []api.Op{
			op(api.Unlink, "/a"), op(api.Unlink, "/b"), op(api.Unlink, "/c"), op(api.Unlink, "/d"), op(api.Create, "/a"), link("/a", "/b"), op(api.Create, "/c"), link("/c", "/d"), write("/a", 0, "1"), write("/c", 0, "2")}},
		{"all at once", with(leaf("/a", "old"), dir("/d"), leaf("/d/k", "kept"), leaf("/e", ""), dir("/g"), dir("/g/h"), name("/z", "/a", "old")),
			with(dir("/a"), leaf("/a/m", "q"), dir("/d"), leaf("/d/k", "new"), name("/d/l", "/a/m", "q"), leaf("/e", "e"), leaf("/g", "")), []api.Op{
				op(api.Unlink, "/a"), op(api.Unlink, "/z"), op(api.Rmdir, "/g/h"), op(api.Rmdir, "/g"), op(api.Mkdir, "/a"), op(api.Create, "/a/m"), link("/a/m", "/d/l"), op(api.Create, "/g"),
				write("/a/m", 0, "q"), op(api.Truncate, "/d/k"), write("/d/k", 0, "new"), write("/e", 0, "e"),
			}},
	} {
		if got, e := Diff(c.a, c.b); e != api.OK || !slices.Equal(got, c.want) {
			t.Error(c.name, e, got)
		}
		differs(t, c.a, c.b)
		differs(t, c.b, c.a)
	}
}

// P24.1: trees of 512 nodes.
func TestDiffOfMany(t *testing.T) {
	one := many(512, "x")
	for i := range one[1:] {
		one[1+i].First = one[1].Path
	}
	other := append(with(), dir("/d"))
	for _, n := range one[1:511] {
		other = append(other, leaf("/d"+n.Path, "y"))
	}
	for _, c := range []struct {
		a, b []api.Node
		many int
	}{
		{one, one, 0}, {one, many(512, "x"), 3 * 511}, {many(512, "x"), one, 2*511 + 1}, {one, with(), 511}, {with(), one, 511 + 1}, {many(512, "x"), many(512, "y"), 2 * 511}, {one, other, 511 + 1 + 2*510}, {other, one, 510 + 1 + 511 + 1},
	} {
		l, e := Diff(c.a, c.b)
		got, errs := tree.Fold(c.a, l)
		if e != api.OK || len(l) != c.many || !tree.Same(got, c.b) || slices.ContainsFunc(errs, func(e api.Errno) bool { return e != api.OK }) {
			t.Error(len(l), "not", c.many, e)
		}
	}
}

// P24.1
func TestKept(t *testing.T) {
	for _, c := range []struct {
		a, b []api.Node
		want []string
	}{
		{with(), with(), []string{"/"}},
		{with(leaf("/a", "x")), with(leaf("/a", "y")), []string{"/", "/a"}},
		{with(dir("/a")), with(leaf("/a", "")), []string{"/"}},
		{with(leaf("/a", "")), with(dir("/a")), []string{"/"}},
		{with(leaf("/a", "")), with(leaf("/b", "")), []string{"/"}},
		{with(dir("/a"), leaf("/a/b", ""), dir("/c")), with(dir("/a"), leaf("/a/c", ""), dir("/c")), []string{"/", "/a", "/c"}},
		{with(leaf("/a", ""), name("/b", "/a", "")), with(leaf("/a", ""), leaf("/b", "")), []string{"/"}},
		{with(leaf("/a", ""), name("/b", "/a", ""), leaf("/c", "")), with(leaf("/a", "x"), name("/b", "/a", "x"), leaf("/c", "")), []string{"/", "/a", "/b", "/c"}},
		{with(leaf("/a", ""), leaf("/b", ""), name("/c", "/a", "")), with(leaf("/a", ""), leaf("/b", ""), name("/c", "/b", "")), []string{"/"}},
		{with(dir("/a"), leaf("/a-b", ""), leaf("/a/b", "")), with(dir("/a"), leaf("/a-b", ""), leaf("/a/b", "")), []string{"/", "/a", "/a-b", "/a/b"}},
	} {
		for _, way := range [][2][]api.Node{{c.a, c.b}, {c.b, c.a}} {
			if got, e := Kept(way[0], way[1]); e != api.OK || !slices.Equal(got, c.want) {
				t.Error(way, e, got)
			}
		}
	}
}

// P24.1, P24.3
func TestWrongTrees(t *testing.T) {
	right := with(leaf("/a", "x"))
	twice := with(leaf("/a", "x"), name("/b", "/a", "x"))
	for i, wrong := range wrongTrees() {
		for _, c := range [][2][]api.Node{{wrong, right}, {right, wrong}, {wrong, wrong}} {
			if l, e := Diff(c[0], c[1]); l != nil || e != api.ErrForm {
				t.Error("Diff", i, l, e)
			}
			if l, e := Kept(c[0], c[1]); l != nil || e != api.ErrForm {
				t.Error("Kept", i, l, e)
			}
		}
	}
	for i, wrong := range append(wrongTrees(), twice) {
		for _, c := range [][3][]api.Node{{wrong, right, right}, {right, wrong, right}, {right, right, wrong}, {wrong, wrong, wrong}} {
			if got, l, e := Merge(c[0], c[1], c[2]); got != nil || l != nil || e != api.ErrForm {
				t.Error("Merge", i, got, l, e)
			}
		}
	}
}

// P24.1
func TestSize(t *testing.T) {
	for _, c := range []struct {
		l    []api.Op
		want int
	}{
		{nil, 0}, {[]api.Op{}, 0}, {[]api.Op{op(api.Truncate, "/a"), write("/a", 0, "y")}, 1}, {[]api.Op{write("/a", 0, strings.Repeat("x", 64)), op(api.Create, "/b"), write("/b", 200, "\xff\u00e4")}, 67},
		// Writes alone count, whatever else there is.
		{[]api.Op{{Kind: api.Create, Path: "/a", Data: "abc"}, {Data: "abc"}, {Kind: 9, Data: "x"}}, 0}, {[]api.Op{{Kind: api.Write, Off: -1, Data: strings.Repeat("x", 1000)}, {Kind: api.Write}}, 1000},
	} {
		if got := Size(c.l); got != c.want {
			t.Error(c.l, got)
		}
	}
}

// P24.2
func TestPrintAndParse(t *testing.T) {
	for _, c := range []struct {
		l    []api.Op
		text string
	}{
		{nil, ""},
		{[]api.Op{op(api.Truncate, "/a"), write("/a", 0, "y")}, "cut /a\nwrite /a 0 \"y\"\n"},
		{[]api.Op{op(api.Create, "/a"), op(api.Mkdir, "/a/b-1"), link("/a", "/a/b/c/d"), op(api.Unlink, "/x"), op(api.Rmdir, "/0"), {Kind: api.Rename, Path: "/longest", Other: "/-"}},
			"create /a\nmkdir /a/b-1\nlink /a /a/b/c/d\nunlink /x\nrmdir /0\nrename /longest /-\n"},
		{[]api.Op{write("/a", 256, "a b\n\"%\x00\x7f~!\xe4")}, "write /a 256 \"a%20b%0a%22%25%00%7f~!%e4\"\n"},
		{[]api.Op{op(api.Create, "/a"), op(api.Create, "/a")}, "create /a\ncreate /a\n"},
		{slices.Repeat([]api.Op{op(api.Create, "/a")}, 512), strings.Repeat("create /a\n", 512)},
	} {
		if got, e := Print(c.l); got != c.text || e != api.OK {
			t.Errorf("%v %q %v", c.l, got, e)
		}
		if got, e := Parse(c.text); !slices.Equal(got, c.l) || e != api.OK {
			t.Errorf("%q %v %v", c.text, got, e)
		}
	}
}

// P24.2
func TestPrintRefuses(t *testing.T) {
	right := op(api.Create, "/a")
	for _, wrong := range []api.Op{
		{}, {Kind: api.Create}, {Kind: api.NoOp, Path: "/a"}, {Kind: 9, Path: "/a"}, {Kind: 255, Path: "/a"}, op(api.Create, "/"), op(api.Create, "a"), op(api.Create, "/a b"), op(api.Create, "/a\n"), op(api.Mkdir, "/a/b/c/d/e"), op(api.Unlink, "/longerst"), op(api.Link, "/a"), link("/a", "/"), link("/", "/a"),
		{Kind: api.Create, Path: "/a", Other: "/b"}, {Kind: api.Create, Path: "/a", Off: 1}, {Kind: api.Create, Path: "/a", Data: "x"}, {Kind: api.Rename, Path: "/a", Other: "/b", Data: "x"}, {Kind: api.Write, Path: "/a", Other: "/b", Data: "x"},
		write("/a", 0, ""), write("/a", -1, "x"), write("/a", 257, "x"), write("/a", math.MaxInt, "x"), write("/a", math.MinInt, "x"), write("/a", 0, strings.Repeat("x", 65)),
	} {
		for _, l := range [][]api.Op{{wrong}, {right, wrong}, {wrong, right}, {right, wrong, right}} {
			if got, e := Print(l); got != "" || e != api.ErrForm {
				t.Error(l, got, e)
			}
		}
	}
	for _, many := range []int{513, 5000} {
		if got, e := Print(slices.Repeat([]api.Op{right}, many)); got != "" || e != api.ErrForm {
			t.Error(many, len(got), e)
		}
	}
}

// P24.2
func TestParseRefuses(t *testing.T) {
	for _, wrong := range []string{
		"\n", " ", " \n", "create /a", "create /a\r\n", "create /a \n", " create /a\n", "create  /a\n", "create /a\n\n", "\ncreate /a\n", "create\n", "create \n", "create /\n", "create a\n", "Create /a\n", "create /A\n", "creat /a\n", "create /a /b\n", "create /a x\n", "create\t/a\n", "make /a\n", " /a\n", "/a\n",
		"cut\n", "truncate /a\n", "cut /a 0\n", "link /a\n", "link /a \n", "link /a /\n", "link /a /b /c\n", "link /a /b \n", "link /a  /b\n", "rename /a\n", "rename /a b\n", "mkdir /a/b/c/d/e\n", "unlink /longerst\n", "rmdir /\n",
		"write /a\n", "write /a 0\n", "write /a 0 \n", "write /a 0 \"\"\n", "write /a 0 y\n", "write /a 0 \"y\n", "write /a 0 y\"\n", "write /a 0 'y'\n", "write /a \"y\"\n", "write /a \"y\" 0\n", "write /a 0 \"y\" \n", "write /a 0 \"y\" x\n", "write /a 0 \"y\"\"z\"\n", "write /a 0 \"y z\"\n", "write /a 0 \"y\nz\"\n",
		"write /a 00 \"y\"\n", "write /a 01 \"y\"\n", "write /a -1 \"y\"\n", "write /a -0 \"y\"\n", "write /a +1 \"y\"\n", "write /a 257 \"y\"\n", "write /a 1_0 \"y\"\n", "write /a 0x1 \"y\"\n", "write /a 1e1 \"y\"\n", "write /a 1. \"y\"\n", "write /a 99999999999999999999 \"y\"\n", "write /a 18446744073709551616 \"y\"\n", "write /a \u0661 \"y\"\n", "write /a  0 \"y\"\n",
		"write /a 0 \"%\"\n", "write /a 0 \"%2\"\n", "write /a 0 \"%79\"\n", "write /a 0 \"%0A\"\n", "write /a 0 \"%g0\"\n", "write /a 0 \"\x00\"\n", "write /a 0 \"\xff\"\n", "write /a 0 \"\u00e4\"\n", "write /a 0 \"\x7f\"\n",
		"write /a 0 \"" + strings.Repeat("y", 65) + "\"\n", "write /a 0 \"" + strings.Repeat("%00", 65) + "\"\n", "\x00", "\xff\n", "create /a\ncreate /b", "create /a\x00create /b\n", "create /a\rcreate /b\n", "create /a\nx", "create /a\n ", "create /a\n\x00", "create /\xff\n", "create\u00a0/a\n",
		strings.Repeat("create /a\n", 513), strings.Repeat("create /a\n", 512) + "\n", strings.Repeat("create /a\n", 512) + "x", strings.Repeat("\n", 100000), strings.Repeat(" ", 100000) + "\n", "create /" + strings.Repeat("a", 100000) + "\n",
	} {
		if got, e := Parse(wrong); got != nil || e != api.ErrForm {
			t.Errorf("%.60q %v %v", wrong, got, e)
		}
	}
}

// P24.2: each byte alone.
func TestQuote(t *testing.T) {
	for s, want := range map[string]string{
		"": `""`, "y": `"y"`, "a b": `"a%20b"`, "\n": `"%0a"`, `"`: `"%22"`, "%": `"%25"`, "%20": `"%2520"`, "\x00\x1f\x20\x21\x7e\x7f\x80\xff": `"%00%1f%20!~%7f%80%ff"`, "\u00e4": `"%c3%a4"`, "\ufffd": `"%ef%bf%bd"`, "#$&'": `"#$&'"`,
	} {
		if got := Quote(s); got != want {
			t.Errorf("%q %s", s, got)
		}
		if got, e := Unquote(want); got != s || e != api.OK {
			t.Errorf("%s %q %v", want, got, e)
		}
	}
	for c := range 256 {
		s := string([]byte{byte(c)})
		want := quoteByWords(s)
		if Quote(s) != want || len(want) != 3 && len(want) != 5 {
			t.Errorf("%q %s", s, Quote(s))
		}
		if got, e := Unquote(want); got != s || e != api.OK {
			t.Errorf("%s %q %v", want, got, e)
		}
		// As it is it may stand there just if it is quoted so.
		plain := `"` + s + `"`
		if got, e := Unquote(plain); (e == api.OK) != (plain == want) || e == api.OK && got != s || e != api.OK && (got != "" || e != api.ErrForm) {
			t.Errorf("%s %q %v", plain, got, e)
		}
	}
}

// P24.2
func TestUnquoteRefuses(t *testing.T) {
	for _, wrong := range []string{
		"", `"`, "x", "xy", `"x`, `x"`, `x""`, `""x`, ` ""`, `"" `, `"""`, `"x"y"`, `'x'`, `" "`, `"%"`, `"%2"`, `"%`, `"%2`, `"%20`, `"%2g"`, `"%g2"`, `"%0A"`, `"%FF"`, `"%41"`, `"%21"`, `"%7e"`, `"%+1"`, `"%-1"`, `"% 1"`, `"%_1"`, `"%%25"`, `"%%"`, `"%2%25"`, "\"\n\"", "\"\x00\"", "\"\xff\"", "\"\u00e4\"", "\"\x7f\"", `"a"b`, `"x%"`, `"%200`, `%22%22`,
	} {
		if got, e := Unquote(wrong); got != "" || e != api.ErrForm {
			t.Errorf("%q %q %v", wrong, got, e)
		}
	}
}

// P24.3
func TestMerge(t *testing.T) {
	for _, c := range []struct {
		name               string
		base, mine, theirs []api.Node
		want               []api.Node
		conflicts          []string
	}{
		{"nothing", with(), with(), with(), with(), nil},
		{"mine alone", with(), with(leaf("/a", "x")), with(), with(leaf("/a", "x")), nil},
		{"theirs alone", with(), with(), with(leaf("/a", "x")), with(leaf("/a", "x")), nil},
		{"both alike", with(), with(leaf("/a", "x")), with(leaf("/a", "x")), with(leaf("/a", "x")), nil},
		{"both unlike", with(), with(leaf("/a", "x")), with(leaf("/a", "y")), with(leaf("/a", "x")), []string{"/a"}},
		{"unlike paths", with(leaf("/c", "")), with(leaf("/a", "x"), leaf("/c", "")), with(leaf("/b", "y"), leaf("/c", "z")), with(leaf("/a", "x"), leaf("/b", "y"), leaf("/c", "z")), nil},
		{"both away", with(leaf("/a", "")), with(), with(), with(), nil},
		{"mine away", with(leaf("/a", "")), with(), with(leaf("/a", "")), with(), nil},
		{"theirs away", with(leaf("/a", "")), with(leaf("/a", "")), with(), with(), nil},
		{"mine away, theirs written", with(leaf("/a", "")), with(), with(leaf("/a", "y")), with(), []string{"/a"}},
		{"mine written, theirs away", with(leaf("/a", "")), with(leaf("/a", "y")), with(), with(leaf("/a", "y")), []string{"/a"}},
		{"a file, a directory", with(), with(leaf("/a", "")), with(dir("/a")), with(leaf("/a", "")), []string{"/a"}},
		{"a directory, a file", with(), with(dir("/a")), with(leaf("/a", "")), with(dir("/a")), []string{"/a"}},
		{"both directories", with(), with(dir("/a"), leaf("/a/x", "1")), with(dir("/a"), leaf("/a/y", "2")), with(dir("/a"), leaf("/a/x", "1"), leaf("/a/y", "2")), nil},
		{"a directory away, something in it", with(dir("/d")), with(), with(dir("/d"), leaf("/d/x", "")), with(), []string{"/d/x"}},
		{"something in it, the directory away", with(dir("/d")), with(dir("/d"), leaf("/d/x", "")), with(), with(), []string{"/d/x"}},
		{"deep in it", with(dir("/d"), dir("/d/e")), with(), with(dir("/d"), dir("/d/e"), dir("/d/e/f"), leaf("/d/e/f/g", "")), with(), []string{"/d/e/f", "/d/e/f/g"}},
		{"below a file", with(dir("/d")), with(leaf("/d", "x")), with(dir("/d"), dir("/d/e"), leaf("/d/e/f", "")), with(leaf("/d", "x")), []string{"/d/e", "/d/e/f"}},
		{"a file and what is below it", with(), with(leaf("/d", "x")), with(dir("/d"), dir("/d/e"), leaf("/d/e/f", "")), with(leaf("/d", "x")), []string{"/d", "/d/e", "/d/e/f"}},
		{"below what was a conflict", with(dir("/d"), leaf("/d/x", "")), with(dir("/d"), leaf("/d/x", "1")), with(leaf("/d", "")), with(leaf("/d", "")), []string{"/d/x"}},
		{"what is dropped is nothing for what is below it", with(dir("/d")), with(), with(dir("/d"), dir("/d/e"), leaf("/d/e/x", ""), dir("/d/f")), with(), []string{"/d/e", "/d/e/x", "/d/f"}},
		{"in order", with(leaf("/b", "")), with(leaf("/a", "1"), leaf("/a-b", "1"), dir("/b"), leaf("/b/a", "1"), leaf("/z", "1")), with(leaf("/a", "2"), leaf("/a-b", "2"), dir("/b"), leaf("/b/a", "2"), leaf("/c", "2"), leaf("/z", "2")), with(leaf("/a", "1"), leaf("/a-b", "1"), dir("/b"), leaf("/b/a", "1"), leaf("/c", "2"), leaf("/z", "1")), []string{"/a", "/a-b", "/b/a", "/z"}},
		{"a directory moved", with(dir("/a"), leaf("/a/x", "1")), with(dir("/b"), leaf("/b/x", "1")), with(dir("/a"), leaf("/a/x", "2")), with(dir("/b"), leaf("/b/x", "1")), []string{"/a/x"}},
	} {
		if got, conflicts, e := Merge(c.base, c.mine, c.theirs); e != api.OK || !tree.Same(got, c.want) || !slices.Equal(conflicts, c.conflicts) {
			t.Error(c.name, e, got, conflicts)
		}
		merges(t, c.base, c.mine, c.theirs)
	}
}

// P24.3: what stands at all paths is answered, though it be more than a tree may have.
func TestMergeOfMany(t *testing.T) {
	mine := many(512, "x")
	theirs := with(dir("/d"))
	for _, n := range mine[1:511] {
		theirs = append(theirs, leaf("/d"+n.Path, "y"))
	}
	got, conflicts, e := Merge(with(), mine, theirs)
	if e != api.OK || conflicts != nil || len(got) != 1023 || got[1] != dir("/d") || got[2] != theirs[2] || got[1022] != mine[511] {
		t.Error(len(got), conflicts, e)
	}
	if got, conflicts, e := Merge(mine, mine, theirs); e != api.OK || conflicts != nil || !tree.Same(got, theirs) {
		t.Error(len(got), conflicts, e)
	}
}

// P3 of the rules: what is handed in stays as it is, what is answered is the caller's.
func TestNothingIsShared(t *testing.T) {
	spare := func(l []api.Node) []api.Node { return append(slices.Clip(l), leaf("/zzz", "spare"))[:len(l)] }
	was := [][]api.Node{with(leaf("/a", "1"), dir("/d"), name("/d/b", "/a", "1")), with(leaf("/a", "2"), dir("/e")), with(dir("/d"), leaf("/d/b", "3"))}
	a, b, c := spare(was[0]), spare(was[1]), spare(was[2])
	stays := func(call string) {
		t.Helper()
		for i, l := range [][]api.Node{a, b, c} {
			if !slices.Equal(l, was[i]) || l[:len(l)+1][len(l)] != leaf("/zzz", "spare") {
				t.Error(call, l)
			}
		}
	}
	ops, _ := Diff(a, b)
	clear(append(ops, api.Op{}))
	stays("Diff")
	kept, _ := Kept(a, b)
	clear(append(kept, "", ""))
	stays("Kept")
	got, conflicts, e := Merge(b, c, with(leaf("/a", "4")))
	if e != api.OK || len(conflicts) != 1 {
		t.Error(got, conflicts, e)
	}
	clear(append(got, api.Node{}))
	clear(append(conflicts, ""))
	stays("Merge")
	for _, same := range [][]api.Node{b, c} {
		got, _, _ := Merge(same, same, same)
		clear(append(got, api.Node{}))
		stays("Merge of one")
	}
	l := []api.Op{op(api.Create, "/a"), write("/a", 0, "x"), {}}[:2]
	Print(l)
	Size(l)
	if l[0] != op(api.Create, "/a") || l[1] != write("/a", 0, "x") || l[:3][2] != (api.Op{}) {
		t.Error(l)
	}
}
