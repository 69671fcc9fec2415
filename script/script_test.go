package script

import (
	"slices"
	"strings"
	"testing"

	"selvedge/api"
)

// answers fails the test unless a script's lines answer just that.
func answers(t *testing.T, l ...[2]string) {
	t.Helper()
	var text, want []string
	for _, pair := range l {
		text, want = append(text, pair[0]), append(want, pair[1])
	}
	got := strings.Split(Run(strings.Join(text, "\n")), "\n")
	if last := len(got) - 1; len(got) != len(want)+1 || got[last] != "" {
		t.Fatal("so many answers", len(got)-1, "not", len(want), got)
	}
	for i := range want {
		if got[i] != want[i] {
			t.Errorf("line %d, %q, answers %q, not %q", i, text[i], got[i], want[i])
		}
	}
}

// Example 1.
func TestExample(t *testing.T) {
	if got := Run("make /a\nsync\ncrash\ntree"); got != "ok\nok\nok\n/ /a\n" {
		t.Errorf("%q", got)
	}
}

// P16.1: words stand between blanks, and nothing else parts them.
func TestWords(t *testing.T) {
	for line, want := range map[string][]string{
		"": nil, " ": nil, "     ": nil,
		"a": {"a"}, " a": {"a"}, "a ": {"a"}, "  a  ": {"a"},
		"make /a": {"make", "/a"}, "  put   /a  0 x ": {"put", "/a", "0", "x"},
		"a\tb": {"a\tb"}, "a\nb c": {"a\nb", "c"}, "a\r": {"a\r"}, "a\x00 b": {"a\x00", "b"}, "\u00a0 \u2003x": {"\u00a0", "\u2003x"},
		"\xff \xc3 a\xe2\x82 \xe2": {"\xff", "\xc3", "a\xe2\x82", "\xe2"}, "\ufffd é": {"\ufffd", "é"},
	} {
		if got := Words(line); !slices.Equal(got, want) {
			t.Errorf("Words of %q: %q", line, got)
		}
	}
}

// P16.1: there is one line more than line feeds; of the empty text there is none.
func TestCount(t *testing.T) {
	for text, want := range map[string]int{"": 0, " ": 1, "a": 1, "\n": 2, "a\n": 2, "\na": 2, "a\nb": 2, "\n\n\n": 4, "a\r\nb\r": 2, "\xff\n\xe2\x82\n": 3, "\v\f\u2028\u0085": 1, strings.Repeat("\n", 10000): 10001} {
		if got := Count(text); got != want {
			t.Errorf("Count of %q: %d", text[:min(len(text), 20)], got)
		}
	}
}

// P16.1: lines without words answer nothing, wherever they stand.
func TestRunOfNothing(t *testing.T) {
	for text, want := range map[string]string{"": "", "\n": "", "   ": "", " \n\n  \n": "", "\n\ntree\n\n": "/\n", "tree\n tree \n": "/\n/\n", "  tree": "/\n"} {
		if got := Run(text); got != want {
			t.Errorf("Run of %q: %q", text, got)
		}
	}
}

// P16.1: a script has at most MaxScript bytes.
func TestLong(t *testing.T) {
	most := strings.Repeat(" ", api.MaxScript-9) + "tree\ntree"
	for text, want := range map[string]string{most: "/\n/\n", most + "\n": "long\n", " " + most: "long\n", strings.Repeat("\n", api.MaxScript): "", strings.Repeat("\n", api.MaxScript+1): "long\n", strings.Repeat("tree\n", 5000): "long\n"} {
		if got := Run(text); got != want {
			t.Errorf("of %d bytes: %q", len(text), got)
		}
	}
}

// P16.1: what is no line, has not as many words, or a number that can't be.
func TestNoLine(t *testing.T) {
	behind := map[string]int{
		"make": 1, "mkdir": 1, "del": 1, "rmdir": 1, "cut": 1, "ln": 2, "mv": 2, "put": 3, "get": 1, "ls": 1, "write": 1, "spoil": 1, "heal": 1, "flush": 0, "sync": 0, "crash": 0, "check": 0,
		"group": 0, "dep": 2, "on": 1, "off": 1, "free": 1, "drop": 1, "last": 1, "tree": 0, "wait": 0,
	}
	for word, right := range behind {
		for many := range 6 {
			got := Run(word + strings.Repeat(" 1", many))
			if (got == "word\n") != (many != right) {
				t.Error(word, "with", many, "words behind:", got)
			}
		}
	}
	for _, line := range []string{"x", "Tree", "TREE", "tre", "trees", "tree\t", "\ttree", "tree\r", "\x00", "\xff", "é", "-", "0", "mkdir\t/a", "engage 1", "unlink /a", "append /a x"} {
		if got := Run(line); got != "word\n" {
			t.Errorf("%q: %q", line, got)
		}
	}
	for _, number := range []string{"00", "01", "0001", "10000", "12345", "99999999999999999999", "-1", "-0", "+1", "1.", ".5", "1e2", "0x1", "a", "1a", "a1", "1-", "\u0661", "１", "1\t", "1\x00", "\xff", "/a"} {
		for _, line := range []string{"write #", "spoil #", "heal #", "on #", "off #", "free #", "drop #", "last #", "dep # 1", "dep 1 #", "put /a # x"} {
			if got := Run(strings.ReplaceAll(line, "#", number)); got != "word\n" {
				t.Errorf("%q with %q: %q", line, number, got)
			}
		}
	}
	for number, want := range map[string]string{"0": "ok\n", "1": "ok\n", "9": "ok\n", "47": "ok\n", "10": "ok\n", "48": "error 2\n", "100": "error 2\n", "9999": "error 2\n", "1000": "error 2\n"} {
		for _, word := range []string{"write ", "spoil ", "heal "} {
			if got := Run(word + number); got != want {
				t.Errorf("%q: %q", word+number, got)
			}
		}
	}
}

// The table: files, directories and their names.
func TestFiles(t *testing.T) {
	answers(t, [][2]string{
		{"tree", "/"}, {"ls /", "-"},
		{"make /a", "ok"}, {"make /a", "error 6"}, {"mkdir /a", "error 6"}, {"make /a/b", "error 7"}, {"make /x/y", "error 5"}, {"make a", "error 3"}, {"make /", "error 3"}, {"make /A", "error 3"}, {"make /12345678", "error 3"},
		{"get /a", "0 0"}, {"put /a 0 hello", "ok"}, {"get /a", "5 104"}, {"put /a 5 !", "ok"}, {"get /a", "6 104"}, {"put /a 7 x", "error 2"}, {"put /a 257 x", "error 3"}, {"put /a 256 x", "error 2"}, {"put / 0 x", "error 3"}, {"put /x 0 x", "error 5"},
		{"put /a 0 \xffé", "ok"}, {"get /a", "6 255"}, {"put /a 0 \x00", "ok"}, {"get /a", "6 0"}, {"put /a 0 " + strings.Repeat("w", 64), "ok"}, {"get /a", "64 119"}, {"put /a 0 " + strings.Repeat("w", 65), "error 3"},
		{"ln /a /b", "ok"}, {"ln /a /b", "error 6"}, {"ln /x /y", "error 5"}, {"cut /b", "ok"}, {"get /a", "0 0"}, {"cut /x", "error 5"}, {"cut /", "error 3"},
		{"mkdir /d", "ok"}, {"mv /b /d/c", "ok"}, {"mv /b /d/c", "error 5"}, {"mv /d /e", "error 8"}, {"put /d/c 0 xyz", "ok"}, {"get /a", "3 120"}, {"get /d", "error 8"}, {"get /", "error 8"}, {"get /b", "error 5"}, {"get x", "error 3"}, {"get /a/x", "error 7"}, {"put /d 0 x", "error 8"}, {"cut /d", "error 8"},
		{"tree", "/ /a /d /d/c"}, {"ls /", "a d"}, {"ls /d", "c"}, {"ls /a", "error 7"}, {"ls /x", "error 5"}, {"ls d", "error 3"}, {"ls /a/x", "error 7"},
		{"rmdir /d", "error 9"}, {"rmdir /a", "error 7"}, {"rmdir /x", "error 5"}, {"del /d", "error 8"}, {"del /x", "error 5"}, {"del /d/c", "ok"}, {"ls /d", "-"}, {"rmdir /d", "ok"}, {"del /a", "ok"}, {"tree", "/"},
	}...)
}

// The table: what is written, what lasts, what a crash leaves, what the checker finds.
func TestDisk(t *testing.T) {
	answers(t, [][2]string{
		{"wait", "0"}, {"check", "0"}, {"make /a", "ok"}, {"wait", "6"}, {"write 4", "ok"}, {"flush", "ok"}, {"wait", "6"}, {"write 1", "ok"}, {"wait", "6"}, {"flush", "ok"}, {"wait", "5"}, {"write 4", "ok"}, {"flush", "ok"}, {"wait", "4"},
		{"write 2", "ok"}, {"crash", "ok"}, {"wait", "0"}, {"tree", "/"}, {"check", "1"}, {"make /a", "ok"}, {"check", "1"}, {"sync", "ok"}, {"wait", "0"}, {"crash", "ok"}, {"tree", "/ /a"}, {"check", "1"},
		{"put /a 0 x", "ok"}, {"wait", "3"}, {"spoil 12", "ok"}, {"sync", "error 10"}, {"wait", "2"}, {"write 12", "error 10"}, {"heal 12", "ok"}, {"write 12", "ok"}, {"sync", "ok"}, {"wait", "0"}, {"get /a", "1 120"},
		{"spoil 48", "error 2"}, {"heal 99", "error 2"}, {"write 1000", "error 2"}, {"put /a 0 y", "ok"}, {"get /a", "1 121"}, {"crash", "ok"}, {"get /a", "1 120"}, {"spoil 12", "ok"}, {"crash", "ok"}, {"put /a 0 z", "ok"}, {"sync", "ok"},
	}...)
}

// The table: the system is of 48 blocks and 16 inodes; a crash forgets groups.
func TestRoom(t *testing.T) {
	var l [][2]string
	for _, path := range []string{"/a", "/b", "/c", "/d"} {
		l = append(l, [2]string{"make " + path, "ok"})
	}
	// 36 blocks beside the root's: four files of eight blocks, and four left; 24 at hand, so often a sync.
	for _, path := range []string{"/a", "/b", "/c", "/d"} {
		for _, off := range []string{"0", "64", "128", "192"} {
			l = append(l, [2]string{"put " + path + " " + off + " " + strings.Repeat("x", 64), "ok"}, [2]string{"sync", "ok"})
		}
	}
	l = append(l, [2]string{"mkdir /e", "ok"}, [2]string{"sync", "ok"}, [2]string{"make /e/f", "ok"}, [2]string{"put /e/f 0 " + strings.Repeat("x", 64), "ok"}, [2]string{"put /e/f 64 x", "error 4"}, [2]string{"put /a 256 x", "error 2"})
	for _, name := range []string{"f", "g", "h"} {
		l = append(l, [2]string{"make /" + name, "ok"})
	}
	l = append(l, [2]string{"make /i", "error 4"}, [2]string{"ls /", "a b c d e f g h"})
	answers(t, l...)
}

// The table: where too much waits there is an error.
func TestFull(t *testing.T) {
	l := [][2]string{{"make /a", "ok"}, {"put /a 0 x", "ok"}, {"sync", "ok"}}
	for range 200 {
		l = append(l, [2]string{"put /a 0 y", "ok"})
	}
	answers(t, append(l, [2]string{"wait", "200"}, [2]string{"put /a 0 z", "error 11"}, [2]string{"flush", "ok"}, [2]string{"put /a 0 z", "error 11"}, [2]string{"write 12", "ok"}, [2]string{"put /a 0 z", "error 11"}, [2]string{"flush", "ok"}, [2]string{"wait", "0"}, [2]string{"put /a 0 z", "ok"}, [2]string{"get /a", "1 122"})...)
}

// The table: groups.
func TestGroups(t *testing.T) {
	answers(t, [][2]string{
		{"make /a", "ok"}, {"put /a 0 a", "ok"}, {"make /b", "ok"}, {"put /b 0 b", "ok"}, {"sync", "ok"},
		{"on 1", "error 5"}, {"last 1", "error 5"}, {"group", "ok 1"}, {"group", "ok 2"}, {"dep 2 1", "error 13"}, {"dep 2 9", "error 5"}, {"on 1", "ok"}, {"on 1", "error 13"}, {"free 1", "error 13"}, {"drop 1", "error 13"},
		{"put /a 0 x", "ok"}, {"off 1", "ok"}, {"off 1", "error 13"}, {"free 1", "ok"}, {"free 1", "error 13"}, {"dep 1 2", "error 13"}, {"dep 2 1", "ok"}, {"on 2", "ok"}, {"put /b 0 y", "ok"}, {"off 2", "ok"}, {"drop 1", "error 12"},
		{"wait", "2"}, {"write 13", "ok"}, {"flush", "ok"}, {"wait", "2"}, {"last 1", "ok"}, {"wait", "1"}, {"last 2", "ok"}, {"wait", "0"},
		{"put /b 0 z", "ok"}, {"last 2", "ok"}, {"wait", "1"}, {"on 2", "ok"}, {"put /b 0 w", "ok"}, {"spoil 13", "ok"}, {"last 2", "error 10"}, {"heal 13", "ok"}, {"off 2", "ok"}, {"drop 2", "ok"}, {"drop 2", "error 5"}, {"drop 1", "ok"}, {"last 0", "error 5"},
		{"group", "ok 3"}, {"group", "ok 4"}, {"group", "ok 5"}, {"group", "ok 6"}, {"group", "ok 7"}, {"group", "ok 8"}, {"group", "ok 9"}, {"group", "ok 10"}, {"group", "error 11"}, {"drop 10", "ok"}, {"group", "ok 11"}, {"on 11", "ok"}, {"off 11", "ok"},
		{"crash", "ok"}, {"on 11", "error 5"}, {"group", "ok 1"}, {"get /b", "1 121"},
	}...)
}
