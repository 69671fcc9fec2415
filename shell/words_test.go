package shell

import (
	"fmt"
	"math/rand"
	"regexp"
	"strconv"
	"strings"
	"testing"

	"selvedge/api"
	"selvedge/arm"
	"selvedge/check"
	"selvedge/delta"
	"selvedge/fd"
	"selvedge/image"
	"selvedge/stitch"
	"selvedge/tree"
)

// words is a shell told by the table alone.
type words struct {
	s    *stitch.System
	t    *fd.Table
	a    *arm.Arm
	kept []api.Node
}

func begin() *words {
	s := stitch.New(64)
	return &words{s, fd.New(s), arm.New(api.Scan, 8), tree.New()}
}

// split are a line's words, cut out one by one.
func split(line string) ([]string, bool) {
	var l []string
	for line = strings.Trim(line, " "); line != ""; line = strings.TrimLeft(line, " ") {
		end := strings.Index(line+" ", " ")
		word := line[:end]
		line = line[end:]
		if word[0] == '"' {
			if !regexp.MustCompile(`^"([!#$&-~]|%[0-9a-f]{2})*"$`).MatchString(word) {
				return nil, false
			}
			text := regexp.MustCompile(`%..`).ReplaceAllStringFunc(word[1:len(word)-1], func(s string) string {
				n, _ := strconv.ParseUint(s[1:], 16, 8)
				return string([]byte{byte(n)})
			})
			if delta.Quote(text) != word {
				return nil, false
			}
			word = text
		}
		l = append(l, word)
	}
	return l, true
}

// told is an answer, or the error.
func told(e api.Errno, answer ...any) string {
	if e != api.OK {
		return fmt.Sprint("error ", int(e))
	}
	if len(answer) == 0 {
		return "ok"
	}
	return fmt.Sprint(answer...)
}

// isNumber: 1 to 4 digits, without noughts ahead.
var isNumber = regexp.MustCompile(`^(0|[1-9][0-9]{0,3})$`)

// with reads the words behind the first one by letters (P, T a text, N a number, O one with a sign, F flags) and does what is to be done with the numbers and the texts.
func with(line []string, letters string, do func(n []int, s []string) string) string {
	if len(line) != 1+len(letters) {
		return "word"
	}
	var n []int
	var s []string
	for i, word := range line[1:] {
		switch letters[i] {
		case 'P', 'T':
			s = append(s, word)
			continue
		case 'O':
			if !regexp.MustCompile(`^(0|-?[1-9][0-9]{0,3})$`).MatchString(word) {
				return "word"
			}
		case 'N':
			if !isNumber.MatchString(word) {
				return "word"
			}
		case 'F':
			sum := 0
			for _, r := range word {
				if !strings.ContainsRune("rwacxt", r) || strings.Count(word, string(r)) > 1 {
					return "word"
				}
				sum += 1 << strings.IndexRune("rwacxt", r)
			}
			if sum == 0 {
				return "word"
			}
			word = strconv.Itoa(sum)
		}
		number, _ := strconv.Atoi(word)
		n = append(n, number)
	}
	return do(n, s)
}

// row is a line of the table: the letters of its words, and what it does.
type row struct {
	letters string
	do      func(n []int, s []string) string
}

// counted is an answer that is a number, or the error.
func counted(n int, e api.Errno) string { return told(e, n) }

func text(s string, e api.Errno) string { return told(e, delta.Quote(s)) }

func (w *words) rows() map[string]row {
	return map[string]row{
		"open":  {"PF", func(n []int, s []string) string { return counted(w.t.Open(s[0], n[0])) }},
		"close": {"N", func(n []int, s []string) string { return told(w.t.Close(n[0])) }},
		"dup":   {"N", func(n []int, s []string) string { return counted(w.t.Dup(n[0])) }},
		"seek":  {"NON", func(n []int, s []string) string { return counted(w.t.Seek(n[0], n[1], n[2])) }},
		"read":  {"NN", func(n []int, s []string) string { return text(w.t.Read(n[0], n[1])) }},
		"at":    {"NNN", func(n []int, s []string) string { return text(w.t.At(n[0], n[1], n[2])) }},
		"write": {"NT", func(n []int, s []string) string { return counted(w.t.Write(n[0], s[0])) }},
		"cut":   {"N", func(n []int, s []string) string { return told(w.t.Cut(n[0])) }},
		"names": {"NN", func(n []int, s []string) string {
			l, e := w.t.Names(n[0], n[1])
			if e == api.OK && len(l) == 0 {
				return "-"
			}
			return told(e, strings.Join(l, " "))
		}},
		"stat": {"N", func(n []int, s []string) string {
			st, e := w.t.Stat(n[0])
			return told(e, map[bool]string{true: "dir", false: "file"}[st.Dir], " ", st.Size, " ", st.Links, " ", st.Pos, " ", st.Path)
		}},
		"rm":    {"P", func(n []int, s []string) string { return told(w.t.Unlink(s[0])) }},
		"mv":    {"PP", func(n []int, s []string) string { return told(w.t.Rename(s[0], s[1])) }},
		"sync":  {"", func(n []int, s []string) string { return told(w.s.Sync()) }},
		"flush": {"", func(n []int, s []string) string { return told(w.s.Flush()) }},
		"block": {"N", func(n []int, s []string) string { return told(w.s.Write(n[0])) }},
		"ask":   {"N", func(n []int, s []string) string { return told(w.a.Ask(n[0])) }},
		"next": {"", func(n []int, s []string) string {
			if block, ok := w.a.Next(); ok {
				return told(api.OK, block)
			}
			return "-"
		}},
		"move": {"", func(n []int, s []string) string { return told(api.OK, w.a.Moved()) }},
		"go": {"", func(n []int, s []string) string {
			many := len(w.a.Waiting())
			for range many {
				block, _ := w.a.Next()
				w.s.Write(block)
			}
			return told(api.OK, many)
		}},
		"keep": {"", func(n []int, s []string) string { w.kept = w.s.Tree(); return "ok" }},
		"diff": {"", func(n []int, s []string) string {
			l, e := delta.Diff(w.kept, w.s.Tree())
			return told(e, len(l), " ", delta.Size(l))
		}},
		"lost":  {"", func(n []int, s []string) string { return told(api.OK, w.lost()) }},
		"crash": {"", func(n []int, s []string) string { w.s = stitch.Mount(w.s.Crash(nil)); w.t = fd.New(w.s); return "ok" }},
		"check": {"", func(n []int, s []string) string {
			_, l, e := check.Check(w.s.Crash(nil))
			return told(e, len(l))
		}},
		"tree": {"", func(n []int, s []string) string {
			all := ""
			for _, node := range w.s.Tree() {
				all += " " + node.Path
			}
			return strings.TrimPrefix(all, " ")
		}},
	}
}

func (w *words) lost() int {
	left, _ := image.Tree(w.s.Crash(nil))
	many := 0
	for _, n := range w.s.Tree() {
		if was, ok := tree.Get(left, n.Path); !ok || was.Dir != n.Dir || was.Data != n.Data || was.First != n.First {
			many++
		}
	}
	return many
}

// operates is what a line of an operation does.
func (w *words) operates(line []string) string {
	if len(line) < 2 {
		return "word"
	}
	kinds := map[string]api.OpKind{"create 2": api.Create, "mkdir 2": api.Mkdir, "link 3": api.Link, "unlink 2": api.Unlink, "rmdir 2": api.Rmdir, "rename 3": api.Rename, "write 4": api.Write, "cut 2": api.Truncate}
	o := api.Op{Kind: kinds[fmt.Sprint(line[1], " ", len(line)-1)]}
	switch {
	case o.Kind == api.NoOp:
		return "word"
	case o.Kind == api.Write:
		if !isNumber.MatchString(line[3]) {
			return "word"
		}
		o.Off, _ = strconv.Atoi(line[3])
		o.Data = line[4]
	case len(line) == 4:
		o.Other = line[3]
	}
	o.Path = line[2]
	if !tree.RightOp(o) {
		return "word"
	}
	return told(w.s.Do(o))
}

// run is what a script answers.
func run(script string) string {
	if len(script) > 8192 {
		return "long\n"
	}
	w := begin()
	all := ""
	for _, line := range strings.Split(script, "\n") {
		l, ok := split(line)
		if !ok {
			all += "quote\n"
			continue
		}
		if len(l) == 0 {
			continue
		}
		answer := "word"
		if r, ok := w.rows()[l[0]]; ok {
			answer = with(l, r.letters, r.do)
		}
		if l[0] == "do" {
			answer = w.operates(l)
		}
		all += answer + "\n"
	}
	return all
}

// chancePath is a path; most often one of few.
func chancePath(chance *rand.Rand) string {
	p := "/" + string(rune('a'+chance.Intn(4)))
	for chance.Intn(4) == 0 {
		p += "/" + string(rune('a'+chance.Intn(3)))
	}
	if chance.Intn(40) == 0 {
		return []string{"/", "a", "//", "/A", "\"/a%20b\"", "\"\"", "/longerst", "\""}[chance.Intn(8)]
	}
	return p
}

// chanceNumber is a number; now and then one that is none.
func chanceNumber(chance *rand.Rand, to int) string {
	if chance.Intn(60) == 0 {
		return []string{"00", "01", "-1", "10000", "9999", "x", "\"\"", "\"0\"", "-0", "+1", "-9999", "-10000"}[chance.Intn(12)]
	}
	return strconv.Itoa(chance.Intn(to))
}

// chanceText is a text, in quotes or not.
func chanceText(chance *rand.Rand) string {
	b := make([]byte, chance.Intn(70))
	for i := range b {
		b[i] = byte(chance.Intn(256))
		if chance.Intn(2) == 0 {
			b[i] = 'x'
		}
	}
	if chance.Intn(3) == 0 {
		return "x" + strings.Repeat("y", len(b))
	}
	quoted := delta.Quote(string(b))
	if chance.Intn(40) == 0 {
		quoted = quoted[:chance.Intn(len(quoted))] + "\" %"[:chance.Intn(4)] + "x\""
	}
	return quoted
}

// chanceDo is a line of an operation.
func chanceDo(chance *rand.Rand) string {
	line := "do " + []string{"create", "create", "mkdir", "mkdir", "link", "unlink", "rmdir", "rename", "write", "write", "cut", "make"}[chance.Intn(12)] + " " + chancePath(chance)
	switch {
	case chance.Intn(30) == 0:
		line += " /b"
	case strings.HasPrefix(line, "do link"), strings.HasPrefix(line, "do rename"):
		line += " " + chancePath(chance)
	case strings.HasPrefix(line, "do write"):
		line += " " + chanceNumber(chance, 1+chance.Intn(40)) + " " + chanceText(chance)
	}
	return line
}

// chanceLine is a line, most often one that there is.
func chanceLine(chance *rand.Rand) string {
	fd := chanceNumber(chance, 5)
	number := func(to int) string { return chanceNumber(chance, to) }
	switch chance.Intn(20) {
	case 0, 1, 2:
		flags := []string{"r", "w", "rw", "rc", "rwc", "rwc", "rwc", "wac", "rwt", "rwcx", "c", "rt", "rr", "rq"}[chance.Intn(14)]
		return "open " + chancePath(chance) + " " + flags
	case 3:
		return []string{"close ", "dup ", "cut "}[chance.Intn(3)] + fd
	case 4:
		return "seek " + fd + " " + []string{"", "", "-"}[chance.Intn(3)] + number(20) + " " + number(4)
	case 5, 6:
		return "read " + fd + " " + number(20)
	case 7:
		return "at " + fd + " " + number(20) + " " + number(300)
	case 8, 9, 10:
		return "write " + fd + " " + chanceText(chance)
	case 11:
		return "names " + fd + "  " + number(3)
	case 12:
		return []string{"rm " + chancePath(chance), "mv " + chancePath(chance) + " " + chancePath(chance), "open / r"}[chance.Intn(3)]
	case 13, 14, 15:
		return chanceDo(chance)
	case 16:
		return []string{"block ", "block ", "ask "}[chance.Intn(3)] + number(16+48*chance.Intn(2)+chance.Intn(2)*chance.Intn(1000))
	case 17:
		return []string{"sync", "flush", "flush", "crash", "", "   ", "keep", "next", "next", "go", "sync 1", "\xff", "tree \"", "\"tree\"", "nothing"}[chance.Intn(15)]
	}
	return telling[chance.Intn(len(telling))]
}

// telling are lines that change nothing.
var telling = []string{"stat 0", "stat 1", "stat 2", "diff", "lost", "check", "tree", "move"}

func chanceLines(chance *rand.Rand, many int) []string {
	l := make([]string, many)
	for i := range l {
		l[i] = chanceLine(chance)
	}
	return l
}

// P26.1: long rows of lines against the table.
func TestAgainstTheWords(t *testing.T) {
	chance := rand.New(rand.NewSource(26))
	seen := map[string]int{}
	for range 200 {
		script := strings.Join(chanceLines(chance, 180), "\n")
		got, want := Run(script), run(script)
		if got != want {
			t.Fatalf("%q\nanswers\n%s\nnot\n%s", script, got, want)
		}
		for _, answer := range strings.Split(got, "\n") {
			seen[answer]++
		}
	}
	for _, answer := range []string{"ok", "word", "quote", "-", "0", "1", "2", "3", "error 2", "error 3", "error 5", "error 6", "error 7", "error 8", "error 9", "error 11", "error 12", "error 13"} {
		if seen[answer] < 5 {
			t.Error("too few of", answer, seen[answer])
		}
	}
	if seen["long"] > 10 {
		t.Error("too many are long", seen["long"])
	}
	if len(seen) < 1000 {
		t.Error("too few answers that are unlike", len(seen))
	}
}

// P26.2: a script's answers begin with those of its beginning.
func TestBeginnings(t *testing.T) {
	chance := rand.New(rand.NewSource(262))
	for range 10 {
		l := chanceLines(chance, 100)
		whole := Run(strings.Join(l, "\n"))
		for many := range l {
			script := strings.Join(l[:many], "\n")
			part := Run(script)
			if !strings.HasPrefix(whole, part) || Run(script+"\n") != part {
				t.Fatalf("%q answers %q, and the whole %q", script, part, whole)
			}
			answered := 0
			for _, line := range l[:many] {
				if l, ok := Words(line); !ok || len(l) > 0 {
					answered++
				}
			}
			if strings.Count(part, "\n") != answered {
				t.Fatal("lines with words", answered, "answers", part)
			}
		}
	}
}

// P26.3: stat, diff, lost, check, tree and move change nothing that the other lines answer.
func TestTellingChangesNothing(t *testing.T) {
	chance := rand.New(rand.NewSource(263))
	for range 60 {
		var script, want strings.Builder
		var own []bool // of each answer: is it a plain line's?
		plain := chanceLines(chance, 70)
		for _, line := range plain {
			script.WriteString(strings.Join(telling, "\n") + "\n" + line + "\n")
			own = append(own, make([]bool, len(telling))...)
			if l, ok := Words(line); !ok || len(l) > 0 {
				own = append(own, true)
			}
		}
		if script.Len() > api.MaxScript {
			t.Fatal("long")
		}
		for i, answer := range strings.SplitAfter(Run(script.String()), "\n") {
			if i < len(own) && own[i] {
				want.WriteString(answer)
			}
		}
		if got := Run(strings.Join(plain, "\n")); got != want.String() {
			t.Fatalf("%q: %q, and with telling lines %q", plain, got, want.String())
		}
	}
}

// E7: a line that is refused changes nothing that the other lines answer (but for one that was ErrFull: of that some blocks may stay at hand).
func TestRefusedChangesNothing(t *testing.T) {
	chance := rand.New(rand.NewSource(264))
	refused := 0
	for range 60 {
		var rest, want strings.Builder
		l := chanceLines(chance, 150)
		whole := Run(strings.Join(l, "\n"))
		answers := strings.SplitAfter(whole, "\n")
		for _, line := range l {
			if words, ok := Words(line); ok && len(words) == 0 {
				continue
			}
			answer := answers[0]
			answers = answers[1:]
			if answer == "word\n" || answer == "quote\n" || strings.HasPrefix(answer, "error ") && answer != "error 11\n" {
				refused++
				continue
			}
			rest.WriteString(line + "\n")
			want.WriteString(answer)
		}
		if got := Run(rest.String()); got != want.String() {
			t.Fatalf("%q: %q, and without what is refused %q", l, want.String(), got)
		}
	}
	if refused < 1000 {
		t.Error("too few", refused)
	}
}

// P1: texts of any bytes; each line that has words has one answer.
func TestAnyBytes(t *testing.T) {
	chance := rand.New(rand.NewSource(261))
	pieces := []string{"open", "do", "write", "create", "/a", " ", " ", " ", "\n", "\n", "0", "1", "\x00", "\xff", "\xe2", "é", "tree", "crash", "seek", "\t", "\r", "next", "go", "9999", "/", "\"", "\"", "%20", "%", "rwc", "-1", "-"}
	for range 4000 {
		script := ""
		for range chance.Intn(60) {
			script += pieces[chance.Intn(len(pieces))]
		}
		many := 0
		for _, line := range strings.Split(script, "\n") {
			want, right := split(line)
			got, ok := Words(line)
			if ok != right || strings.Join(got, "\n") != strings.Join(want, "\n") || len(got) != len(want) {
				t.Fatalf("%q has the words %q %v, not %q %v", line, got, ok, want, right)
			}
			if strings.Trim(line, " ") != "" {
				many++
			}
		}
		got := Run(script)
		if want := run(script); got != want || strings.Count(got, "\n") != many {
			t.Fatalf("%q answers %q, not %q", script, got, want)
		}
	}
}
