package shell

import (
	"slices"
	"strconv"
	"strings"
	"testing"
)

// P26.1
func TestWords(t *testing.T) {
	for line, want := range map[string][]string{
		"": nil, " ": nil, "    ": nil, "a": {"a"}, "a b": {"a", "b"}, "  a   b  ": {"a", "b"}, "sync": {"sync"}, "open /a wc": {"open", "/a", "wc"},
		"write 0 \"a%20b\"": {"write", "0", "a b"}, "\"\"": {""}, " \"\"  \"\" ": {"", ""}, "\"x\"": {"x"}, "\"%22%25\" y": {"\"%", "y"}, "\"%0a\"": {"\n"}, "\"%00%ff\"": {"\x00\xff"}, "\"c3\" \"%c3%a4\"": {"c3", "\u00e4"},
		// What does not begin with a quote is no text in quotes.
		"a\"b": {"a\"b"}, "a\"": {"a\""}, "a\"b c\"d": {"a\"b", "c\"d"}, "x\"%zz\"": {"x\"%zz\""}, "%20": {"%20"}, "'a b'": {"'a", "b'"},
		// A blank is 32 alone.
		"a\tb": {"a\tb"}, "a\nb": {"a\nb"}, "a\rb ": {"a\rb"}, "a\u00a0b": {"a\u00a0b"}, "\u2003": {"\u2003"}, "\t": {"\t"}, "\x00 \xff": {"\x00", "\xff"}, "\xe2\x82 x": {"\xe2\x82", "x"}, "\u00e9 \u00e9": {"\u00e9", "\u00e9"}, "\xff\"\" \xff": {"\xff\"\"", "\xff"},
		strings.Repeat("a ", 1000): slices.Repeat([]string{"a"}, 1000), strings.Repeat("a", 1000): {strings.Repeat("a", 1000)},
	} {
		if got, ok := Words(line); !ok || !slices.Equal(got, want) {
			t.Errorf("%.60q %.60q %v", line, got, ok)
		}
	}
}

// P26.1
func TestWrongQuotes(t *testing.T) {
	for _, line := range []string{
		"\"", " \"", "\" ", "\"a", "\"a ", "\"a b\"", "\" \"", "\"\"\"", "\"\"\"\"", "\"a\"b", "\"a\"\"b\"", "\"a\"\"", "\"a\"b c", "\"%\"", "\"%2\"", "\"%2g\"", "\"%0A\"", "\"%41\"", "\"%7e\"", "\"\t\"", "\"\n\"", "\"\xff\"", "\"\u00e4\"", "\"\x7f\"", "\"\x00\"",
		"a \"", "a \"b", "\" a", "write 0 \"a", "write 0 \"a b\"", "write 0 a\" \"", "\"a\" \"", "\"a\" \"b\"c", "\"a\" b \"%\" \"c\"", "sync \"", "\"sync", "x \"a\tb\"",
	} {
		if got, ok := Words(line); ok || got != nil {
			t.Errorf("%q %q", line, got)
		}
		if strings.Contains(line, "\n") {
			continue
		}
		if got := Run("sync\n" + line + "\nsync"); got != "ok\nquote\nok\n" {
			t.Errorf("%q %q", line, got)
		}
	}
}

// answers fails the test unless these lines have these answers; a line and its answer stand in a row, with " > " between.
func answers(t *testing.T, rows ...string) {
	t.Helper()
	var lines, want []string
	for _, row := range rows {
		line, answer, _ := strings.Cut(row, " > ")
		lines = append(lines, line)
		want = append(want, answer)
	}
	got := strings.Split(Run(strings.Join(lines, "\n")), "\n")
	if len(got) != len(want)+1 || got[len(want)] != "" {
		t.Fatal(len(want), "lines, and answers", got)
	}
	for i, answer := range got[:len(want)] {
		if answer != want[i] {
			t.Errorf("line %d: %q answers %q, not %q", i, lines[i], answer, want[i])
		}
	}
}

// P26.1: the example.
func TestExample(t *testing.T) {
	answers(t, "open /a wc > 0", "write 0 hello > 5", "seek 0 1 0 > 1", "stat 0 > file 5 1 1 /a")
	if got := Run("open /a wc\nwrite 0 hello\nseek 0 1 0\nstat 0"); got != "0\n5\n1\nfile 5 1 1 /a\n" {
		t.Errorf("%q", got)
	}
}

// P26.1: open, close, dup, seek, read, at, write, cut.
func TestFiles(t *testing.T) {
	answers(t, "open /a r > error 5", "open /a c > error 2", "open /a a > error 2", "open /a rx > error 5", "open /a wc > 0", "open /a rwcx > error 6", "open /a wcx > error 6", "open / w > error 8", "open a rw > error 3", "open a x > error 2", "open /a/b rc > error 7", "open \"/a\" r > 1",
		"write 0 \"a%20b%22\" > 4", "write 1 x > error 13", "write 0 \"\" > 0", "read 0 9 > error 13", "read 1 2 > \"a%20\"", "read 1 0 > \"\"", "read 1 9999 > \"b%22\"", "read 1 9 > \"\"", "at 1 1 2 > \"%20b\"", "at 1 4 1 > \"\"", "at 1 256 1 > \"\"", "at 1 257 1 > error 2", "read 1 9 > \"\"",
		"seek 1 0 0 > 0", "seek 1 3 0 > 3", "seek 1 -1 1 > 2", "seek 1 -2 2 > 2", "seek 1 -3 1 > error 2", "seek 1 256 0 > 256", "seek 1 257 0 > error 2", "seek 1 1 3 > error 2", "seek 1 -9999 2 > error 2", "seek 1 9999 2 > error 2", "seek 1 0 9999 > error 2", "seek 9 0 0 > error 5", "seek 1 0 1 > 256",
		"dup 1 > 2", "seek 2 1 0 > 1", "read 1 1 > \"%20\"", "read 2 1 > \"b\"", "stat 1 > file 4 1 3 /a", "close 1 > ok", "close 1 > error 5", "stat 2 > file 4 1 3 /a", "dup 1 > error 5", "open /b rw > error 5", "open /b rwc > 1",
		"cut 2 > error 13", "cut 0 > ok", "cut 0 > ok", "stat 2 > file 0 1 3 /a", "read 2 1 > \"\"", "write 0 x > error 2", "seek 0 0 0 > 0", "write 0 x > 1", "close 12 > error 5", "close 9999 > error 5", "cut 5 > error 5", "read 5 1 > error 5", "at 5 0 1 > error 5", "write 5 x > error 5")
	answers(t, "open /a wac > 0", "write 0 "+strings.Repeat("x", 100)+" > 100", "seek 0 0 0 > 0", "write 0 yz > 2", "stat 0 > file 102 1 102 /a", "open /a rt > error 13", "open /a wt > 1", "stat 0 > file 0 1 102 /a", "open /a trw > 2", "open /a crw > 3", "open /a xr > 4")
	var rows []string
	for _, n := range strings.Fields("0 1 2 3 4 5 6 7 8 9 10 11") {
		rows = append(rows, "open /a rc > "+n)
	}
	answers(t, append(rows, "open /a r > error 11", "dup 0 > error 11", "close 7 > ok", "dup 3 > 7")...)
}

// P26.1: flags are letters, in any order, none of them twice.
func TestFlags(t *testing.T) {
	for _, flags := range []string{"", "R", "rr", "rwr", "cc", "rwacxtr", "rz", "z", "r-", "1", "r w", "rw,", "\u00e9", "r\xff", "rwacxtt", "rwacxte"} {
		line := "open /a \"" + flags + "\""
		if strings.ContainsAny(flags, " \u00e9\xff") {
			line = "open /a " + flags
		}
		answers(t, line+" > word", "tree > /")
	}
	for flags, want := range map[string]string{
		"r": "error 5", "w": "error 5", "a": "error 2", "c": "error 2", "x": "error 2", "t": "error 2", "rw": "error 5", "wr": "error 5", "rc": "0", "cr": "0", "wc": "0", "cw": "0", "rwacxt": "0", "txcawr": "0", "acwrtx": "0", "acxt": "error 2", "rx": "error 5", "rt": "error 5", "wat": "error 5",
	} {
		answers(t, "open /a "+flags+" > "+want)
		answers(t, "open /a \""+flags+"\" > "+want)
	}
	// Each letter is its own flag.
	answers(t, "open /a wc > 0", "write 0 abc > 3", "open /a r > 1", "open /a w > 2", "open /a ra > 3", "open /a rx > 4", "open /a rc > 5", "read 1 1 > \"a\"", "read 2 1 > error 13", "write 2 z > 1", "write 3 z > error 13", "open /a wa > 6", "write 6 z > 1", "stat 6 > file 4 1 4 /a", "open /a wt > 7", "stat 7 > file 0 1 0 /a", "open /a rcx > error 6")
}

// P26.1: names and stat, of directories too.
func TestDirectories(t *testing.T) {
	answers(t, "open / r > 0", "names 0 9 > -", "do mkdir /d > ok", "do create /c > ok", "do create /a > ok", "names 0 0 > -", "names 0 2 > a c", "stat 0 > dir 0 1 2 /", "names 0 9 > d", "names 0 9 > -", "seek 0 0 0 > 0", "names 0 9999 > a c d", "seek 0 1 0 > error 8", "read 0 1 > error 8", "at 0 0 1 > error 8",
		"open /d r > 1", "stat 1 > dir 0 1 0 /d", "names 1 1 > -", "open /a r > 2", "names 2 1 > error 7", "open /a w > 3", "names 3 1 > error 13", "do link /a /d/b > ok", "names 1 1 > b", "stat 2 > file 0 2 0 /a", "do unlink /a > ok", "stat 2 > file 0 1 0 /d/b", "do unlink /d/b > ok", "stat 2 > error 5", "names 7 1 > error 5", "do rmdir /d > ok", "names 1 1 > error 5", "tree > / /c")
}

// P26.1: rm and mv of the table, do by the system.
func TestOperations(t *testing.T) {
	answers(t, "do create /a > ok", "do create /a > error 6", "do mkdir /d > ok", "do link /a /d/b > ok", "do rename /a /d/c > ok", "do write /d/c 0 \"a%20b\" > ok", "do write /d/c 9 x > error 2", "open /d/b r > 0", "read 0 9 > \"a%20b\"", "do cut /d/b > ok", "at 0 0 9 > \"\"", "rm /d/c > ok", "rm /d/b > error 12", "mv /d/b /e > ok", "stat 0 > file 0 1 3 /e", "rm /d > error 8", "rm /x > error 5", "rm x > error 3", "rm / > error 3", "mv /e /d > error 6", "mv /e e > error 3", "mv /x /y > error 5", "do unlink /e > ok", "do rmdir /d > ok", "do rmdir /d > error 5", "tree > /")
	// An operation that can't be is none, quotes or not; one that has an error has it.
	answers(t, "do > word", "do create > word", "do create / > word", "do create a > word", "do create /a /b > word", "do create /A > word", "do create \"\" > word", "do create \"/a%20b\" > word", "do create \"/a%0acreate%20/b\" > word", "do create \"/a%0acreate\" /b > word", "do create \"/a%0a\" > word", "do \"create%20/a\" > word", "do \"link%20/a\" /b > word", "do link \"/a%20/b\" > word", "do link /a > word", "do link /a / > word", "do link /a /b /c > word", "do \"\" /a > word", "do make /a > word", "do truncate /a > word", "do Create /a > word", "do do create /a > word", "do sync > word",
		"do write /a > word", "do write /a 0 > word", "do write /a 0 \"\" > word", "do write /a 00 x > word", "do write /a -1 x > word", "do write /a +1 x > word", "do write /a 257 x > word", "do write /a x 0 > word", "do write /a 0 x y > word", "do write /a 0 "+strings.Repeat("x", 65)+" > word", "do write /a/b/c/d/e 0 x > word", "do write \"/a%200\" x > word", "tree > /", "do write /a 0 x > error 5", "do write /a 256 \""+strings.Repeat("%00", 64)+"\" > error 5",
		"  do   create   /a   > ok", "do \"create\" \"/b\" > ok", "\"do\" mkdir /c > ok", "do write /a 0 \"%0a\" > ok", "do write /a 1 \"x\" > ok", "do write /a \"2\" y > ok", "do write /b 0 create > ok", "open /a r > 0", "read 0 9 > \"%0axy\"", "tree > / /a /b /c")
}

// P26.1: sync, flush, block, lost, crash, check.
func TestCrash(t *testing.T) {
	answers(t, "lost > 0", "do create /a > ok", "lost > 1", "check > 0", "flush > ok", "lost > 1", "sync > ok", "lost > 0", "open /a rw > 0", "write 0 x > 1", "lost > 1", "crash > ok", "stat 0 > error 5", "open /a r > 0", "stat 0 > file 0 1 0 /a", "tree > / /a", "do create /b > ok", "lost > 1", "crash > ok", "tree > / /a", "close 0 > error 5",
		"block 64 > error 2", "block 9999 > error 2", "block 63 > ok", "block 0 > ok", "do create /b > ok", "block 1 > ok", "check > 0", "flush > ok", "check > 1", "block 4 > ok", "check > 1", "lost > 1", "block 3 > ok", "block 4 > ok", "block 11 > ok", "flush > ok", "check > 1", "block 11 > ok", "flush > ok", "check > 0", "lost > 0", "crash > ok", "tree > / /a /b")
	// As they are: data, the least name.
	answers(t, "do create /b > ok", "do write /b 0 x > ok", "sync > ok", "do link /b /a > ok", "lost > 2", "sync > ok", "do write /a 0 y > ok", "lost > 2", "do write /a 0 x > ok", "lost > 0", "do mkdir /d > ok", "do create /d/e > ok", "lost > 2", "do unlink /b > ok", "lost > 2", "crash > ok", "tree > / /a /b")
}

// P26.1: ask, next, move, go.
func TestArm(t *testing.T) {
	answers(t, "next > -", "move > 0", "go > 0", "ask 9 > ok", "ask 9 > error 6", "ask 1024 > error 2", "ask 9999 > error 2", "ask 1023 > ok", "ask 0 > ok", "next > 0", "move > 0", "next > 9", "move > 2", "ask 9 > ok", "ask 3 > ok", "next > 9", "next > 1023", "move > 134", "ask 3 > error 6", "next > 3", "move > 265", "next > -")
}

// P26.1: the arm writes what it goes to; up, then down.
func TestGo(t *testing.T) {
	answers(t, "do create /a > ok", "ask 3 > ok", "ask 1 > ok", "ask 2 > ok", "go > 3", "move > 3", "go > 0", "flush > ok", "ask 3 > ok", "ask 4 > ok", "next > 3", "go > 1", "move > 4", "next > -", "crash > ok", "tree > /", "check > 2")
	// Blocks that are not there are gone to, too; the others are written.
	answers(t, "do create /a > ok", "ask 70 > ok", "ask 1 > ok", "ask 500 > ok", "ask 2 > ok", "go > 4", "next > -", "flush > ok", "check > 2", "ask 11 > ok", "ask 3 > ok", "crash > ok", "next > 11", "next > 3")
	rows := []string{}
	for n := range 24 {
		rows = append(rows, "ask "+strconv.Itoa(n)+" > ok")
	}
	answers(t, append(rows, "ask 24 > error 11", "next > 0", "ask 24 > ok", "go > 24", "move > 45")...)
}

// P26.1: keep, diff.
func TestDiff(t *testing.T) {
	answers(t, "diff > 0 0", "do create /a > ok", "diff > 1 0", "do write /a 0 abc > ok", "diff > 2 3", "keep > ok", "diff > 0 0", "do write /a 1 x > ok", "diff > 2 3", "do mkdir /d > ok", "diff > 3 3", "do unlink /a > ok", "diff > 2 0", "crash > ok", "tree > /", "diff > 1 0", "keep > ok", "diff > 0 0", "do mkdir /d > ok", "do create /d/e > ok", "do write /d/e 0 "+strings.Repeat("x", 64)+" > ok", "do write /d/e 64 y > ok", "diff > 4 65", "do cut /d/e > ok", "diff > 2 0")
}

// P26.1: what is no line, or has a wrong number of words, or of digits.
func TestWord(t *testing.T) {
	for _, line := range []string{
		"x", "Sync", "SYNC", "syncs", "\"\"", "\"%20\"", "\"x\"", "sync 0", "sync sync", "flush 1", "next 1", "move 1", "go 1", "keep /", "diff /", "lost /", "crash 1", "check 1", "tree /", "make /a", "get /a", "ls /", "wait", "group", "on 1", "quote", "word", "error", "ok", "long", "\t", "sync\t", "sync\r", "\x00", "\xff", "#",
		"open", "open /a", "open /a r r", "close", "close 0 0", "dup", "dup 0 0", "seek", "seek 0", "seek 0 0", "seek 0 0 0 0", "read", "read 0", "read 0 1 1", "at", "at 0", "at 0 0", "at 0 0 0 0", "write", "write 0", "write 0 a b", "write 0 \"a\" \"b\"", "cut", "cut 0 0", "cut /a 0", "names", "names 0", "names 0 1 1", "stat", "stat 0 0", "rm", "rm /a /b", "mv", "mv /a", "mv /a /b /c", "block", "block 0 0", "ask", "ask 0 0",
		"seek 0 -0 0", "seek 0 -00 0", "seek 0 -01 0", "seek 0 - 0", "seek 0 -- 0", "seek 0 --1 0", "seek 0 +1 0", "seek 0 -+1 0", "seek 0 -10000 0", "seek 0 1- 0", "seek 0 -1 -1", "seek -1 0 0", "seek 0 -x 0", "seek 0 \"-%201\" 0", "seek 0 1 -0", "at 0 -1 1", "read 0 -1", "names 0 -1", "write -1 x", "open /a -",
	} {
		answers(t, line+" > word", "tree > /", "move > 0")
	}
	for _, n := range []string{"-1", "00", "01", "0001", "10000", "99999", "00000", "1.0", "1e3", "+1", "0x1", "1_0", "x", "/a", "\u0661", "\"\"", "\"1%20\"", "\"%0a1\"", "1\t", "18446744073709551616", "4294967296", "-9223372036854775808", "1\x00"} {
		for _, line := range []string{"close N", "dup N", "seek N 0 0", "seek 0 0 N", "read N 0", "read 0 N", "at N 0 0", "at 0 N 0", "at 0 0 N", "write N x", "cut N", "names N 0", "names 0 N", "stat N", "block N", "ask N", "do write /a N x"} {
			answers(t, "do create /a > ok", "open /a rw > 0", strings.ReplaceAll(line, "N", n)+" > word", "lost > 1")
		}
	}
	for _, line := range []string{"seek 0 N 0", "seek 0 -N 0"} {
		for _, n := range []string{"00", "01", "10000", "x", "-", "\u0661", "1.0"} {
			answers(t, "open /a rwc > 0", strings.ReplaceAll(line, "N", n)+" > word")
		}
	}
	answers(t, "\"sync\" > ok", "\"open\" \"/a\" \"rc\" > 0", "\"stat\" \"0\" > file 0 1 0 /a", "\"seek\" 0 \"1\" 0 > 1", "seek 0 \"-1\" 1 > 0", "  tree   > / /a", "read 0 9999 > \"\"", "ask \"9\" > ok")
}

// P26.1: lines without words answer nothing; a text of more than MaxScript bytes is long.
func TestRunTexts(t *testing.T) {
	for text, want := range map[string]string{
		"": "", "\n": "", "\n\n\n": "", " ": "", "  \n ": "", "tree": "/\n", "tree\n": "/\n", "\ntree\n\n": "/\n", "tree\n  \ntree": "/\n/\n", " tree ": "/\n", "tree\r\n": "word\n", "tree\x00": "word\n", "\"": "quote\n", "\"\n\"": "quote\nquote\n", "\"\n\ntree": "quote\n/\n", "write 0 \"a\nb\"": "quote\nword\n",
		strings.Repeat(" ", 8192): "", strings.Repeat(" ", 8193): "long\n", strings.Repeat("\n", 8192): "", strings.Repeat("\n", 8193): "long\n", strings.Repeat("x", 8192): "word\n", strings.Repeat("x", 8193): "long\n", strings.Repeat("\"", 8192): "quote\n", strings.Repeat("\xff", 8193): "long\n",
		strings.Repeat("tree\n", 1638) + "xx": strings.Repeat("/\n", 1638) + "word\n", strings.Repeat("tree\n", 1638) + "xxx": "long\n", strings.Repeat("x\n", 4096): strings.Repeat("word\n", 4096), strings.Repeat("tree\n", 100000): "long\n",
	} {
		if got := Run(text); got != want {
			t.Errorf("%.60q %.60q", text, got)
		}
	}
}

// P1: a crash may leave what can't be mounted (a name is made again at an earlier place of its directory, and the patch that takes it from the later one does not last yet): then there is no system, and nothing can be done with it.
func TestNothingToMount(t *testing.T) {
	answers(t, "do create /a > ok", "do create /b > ok", "do create /c > ok", "do create /d > ok", "do create /e > ok", "sync > ok", "open /c rw > 0", "do unlink /a > ok", "do unlink /e > ok", "do link /b /e > ok", "keep > ok", "block 4 > ok", "flush > ok", "lost > 1", "block 11 > ok", "flush > ok", "lost > 5", "check > error 3", "ask 5 > ok", "ask 70 > ok",
		"crash > ok", "open /a r > error 1", "open /a c > error 1", "close 0 > error 1", "dup 0 > error 1", "seek 0 0 0 > error 1", "read 0 1 > error 1", "at 0 0 1 > error 1", "write 0 x > error 1", "cut 0 > error 1", "names 0 1 > error 1", "stat 0 > error 1", "rm /a > error 1", "mv /a /b > error 1", "do create /x > error 1", "do create x > word", "sync > error 1", "flush > error 1", "block 1 > error 1", "next > 5", "go > 1", "move > 14", "ask 5 > ok", "diff > error 3", "lost > 0", "check > error 3", "tree > ", "crash > ok", "keep > ok", "diff > error 3")
}
