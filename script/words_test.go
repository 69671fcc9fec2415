package script

import (
	"math/rand"
	"strconv"
	"strings"
	"testing"

	"selvedge/api"
	"selvedge/check"
	"selvedge/stitch"
)

// words is a script's system, told by the table alone.
type words struct {
	s *stitch.System
}

// told is ok, or the error.
func told(e api.Errno) string {
	if e != api.OK {
		return "error " + strconv.Itoa(int(e))
	}
	return "ok"
}

// digits: a number of 1 to 4 digits, without noughts ahead; or -1.
func digits(word string) int {
	for n := range 10000 {
		if strconv.Itoa(n) == word {
			return n
		}
	}
	return -1
}

// answer is what a line that has words answers: first those with paths, and with numbers.
func (w *words) answer(line []string) string {
	paths := map[string]api.OpKind{"make 2": api.Create, "mkdir 2": api.Mkdir, "del 2": api.Unlink, "rmdir 2": api.Rmdir, "cut 2": api.Truncate, "ln 3": api.Link, "mv 3": api.Rename}
	key := line[0] + " " + strconv.Itoa(len(line))
	if kind, ok := paths[key]; ok {
		o := api.Op{Kind: kind, Path: line[1]}
		if len(line) == 3 {
			o.Other = line[2]
		}
		return told(w.s.Do(o))
	}
	numbers := map[string]func(n int) api.Errno{
		"write 2": w.s.Write, "on 2": w.s.Engage, "off 2": w.s.Disengage, "free 2": w.s.Release, "drop 2": w.s.Abandon, "last 2": w.s.SyncGroup,
		"spoil 2": func(n int) api.Errno { return w.s.Spoil(n, true) },
		"heal 2":  func(n int) api.Errno { return w.s.Spoil(n, false) },
		"put 4": func(n int) api.Errno {
			return w.s.Do(api.Op{Kind: api.Write, Path: line[1], Off: n, Data: line[3]})
		},
		"dep 3": func(n int) api.Errno { return w.s.Depend(n, digits(line[2])) },
	}
	if call, ok := numbers[key]; ok {
		at := 1
		if line[0] == "put" {
			at = 2
		}
		if n := digits(line[at]); n >= 0 && (line[0] != "dep" || digits(line[2]) >= 0) {
			return told(call(n))
		}
		return "word"
	}
	return w.tells(key, line)
}

// tells is what the other lines answer.
func (w *words) tells(key string, line []string) string {
	switch key {
	case "get 2":
		data, e := w.s.Read(line[1])
		if e != api.OK {
			return told(e)
		}
		return strconv.Itoa(len(data)) + " " + strconv.Itoa(int((data + "\x00")[0]))
	case "ls 2":
		names, e := w.s.List(line[1])
		if e != api.OK {
			return told(e)
		}
		if len(names) == 0 {
			return "-"
		}
		return strings.Join(names, " ")
	case "flush 1":
		return told(w.s.Flush())
	case "sync 1":
		return told(w.s.Sync())
	case "crash 1":
		w.s = stitch.Mount(w.s.Crash(nil))
		return "ok"
	case "check 1":
		_, l, _ := check.Check(w.s.Image())
		return strconv.Itoa(len(l))
	case "group 1":
		n, e := w.s.Group()
		if e != api.OK {
			return told(e)
		}
		return "ok " + strconv.Itoa(n)
	case "tree 1":
		var paths []string
		for _, n := range w.s.Tree() {
			paths = append(paths, n.Path)
		}
		return strings.Join(paths, " ")
	case "wait 1":
		return strconv.Itoa(w.s.Waiting())
	}
	return "word"
}

// run is what a script answers.
func run(text string) string {
	w := &words{stitch.New(48)}
	var all strings.Builder
	for _, line := range strings.Split(text, "\n") {
		var l []string
		for _, word := range strings.Split(line, " ") {
			if word != "" {
				l = append(l, word)
			}
		}
		if len(l) > 0 {
			all.WriteString(w.answer(l) + "\n")
		}
	}
	return all.String()
}

// chanceLine is a line, most often one that there is.
func chanceLine(chance *rand.Rand) string {
	path := func() string {
		p := "/" + string(rune('a'+chance.Intn(5)))
		if chance.Intn(3) == 0 {
			p += "/" + string(rune('a'+chance.Intn(5)))
		}
		return p
	}
	number := func(to int) string {
		if chance.Intn(30) == 0 {
			return []string{"00", "01", "-1", "10000", "9999", "x", ""}[chance.Intn(7)]
		}
		return strconv.Itoa(chance.Intn(to))
	}
	switch chance.Intn(12) {
	case 0, 1:
		return []string{"make", "mkdir", "mkdir", "make", "del", "rmdir", "cut"}[chance.Intn(7)] + " " + path()
	case 2, 3:
		return "put " + path() + " " + number(40) + " " + strings.Repeat(string(rune('a'+chance.Intn(26))), 1+chance.Intn(40))
	case 4:
		return []string{"ln ", "mv "}[chance.Intn(2)] + path() + "  " + path()
	case 5, 6:
		return []string{"get ", "ls "}[chance.Intn(2)] + path()
	case 7:
		return []string{"write", "write", "write", "spoil", "heal", "heal"}[chance.Intn(6)] + " " + number(50)
	case 8:
		return []string{"flush", "flush", "sync", "crash", "", "  "}[chance.Intn(6)]
	case 9:
		return []string{"group", "dep " + number(10) + " " + number(10)}[chance.Intn(2)]
	case 10:
		return []string{"on", "off", "free", "drop", "last"}[chance.Intn(5)] + " " + number(5)
	}
	return []string{"tree", "wait", "check", "ls /", "nothing", "tree 1", "put /a 0", "\xff"}[chance.Intn(8)]
}

func chanceLines(chance *rand.Rand, many int) []string {
	l := make([]string, many)
	for i := range l {
		l[i] = chanceLine(chance)
	}
	return l
}

// P16.1: long rows of lines against the table.
func TestAgainstTheWords(t *testing.T) {
	chance := rand.New(rand.NewSource(16))
	seen := map[string]int{}
	for range 120 {
		text := strings.Join(chanceLines(chance, 150), "\n")
		got, want := Run(text), run(text)
		if got != want {
			t.Fatalf("%q\nanswers\n%s\nnot\n%s", text, got, want)
		}
		for _, answer := range strings.Split(got, "\n") {
			seen[answer]++
		}
	}
	for _, answer := range []string{"ok", "word", "-", "0", "error 2", "error 5", "error 6", "error 7", "error 8", "error 10", "error 13", "ok 1"} {
		if seen[answer] < 5 {
			t.Error("too few of", answer, seen[answer])
		}
	}
}

// P16.2: a script's answers begin with those of its beginning.
func TestBeginnings(t *testing.T) {
	chance := rand.New(rand.NewSource(162))
	for range 20 {
		l := chanceLines(chance, 60)
		whole := Run(strings.Join(l, "\n"))
		for many := range l {
			text := strings.Join(l[:many], "\n")
			part := Run(text)
			if !strings.HasPrefix(whole, part) || Run(text+"\n") != part {
				t.Fatalf("%q answers %q, and the whole %q", text, part, whole)
			}
			answered := 0
			for _, line := range l[:many] {
				if len(Words(line)) > 0 {
					answered++
				}
			}
			if strings.Count(part, "\n") != answered {
				t.Fatal("lines with words", answered, "answers", part)
			}
		}
	}
}

// P16.3: get, ls, check, tree and wait change nothing that the other lines answer.
func TestTellingChangesNothing(t *testing.T) {
	chance := rand.New(rand.NewSource(163))
	for range 40 {
		var text strings.Builder
		var want []string
		plain := chanceLines(chance, 80)
		answers := strings.Split(Run(strings.Join(plain, "\n")), "\n")
		telling := "get /a\nls /\nls /b\nget /c/d\ncheck\ntree\nwait\n"
		var own []bool // of each answer: is it a plain line's?
		for _, line := range plain {
			text.WriteString(telling + line + "\n")
			own = append(own, make([]bool, 7)...)
			if len(Words(line)) > 0 {
				own = append(own, true)
			}
		}
		for i, answer := range strings.Split(Run(text.String()), "\n") {
			if i < len(own) && own[i] {
				want = append(want, answer)
			}
		}
		if text.Len() > api.MaxScript {
			t.Fatal("long")
		}
		if strings.Join(want, "\n")+"\n" != strings.Join(answers, "\n") {
			t.Fatalf("%q: %q, and with telling lines %q", plain, answers, want)
		}
	}
}

// P1: texts of any bytes; each line that has words has one answer.
func TestAnyBytes(t *testing.T) {
	chance := rand.New(rand.NewSource(161))
	pieces := []string{"make", "put", "/a", " ", " ", "\n", "\n", "0", "1", "\x00", "\xff", "\xe2", "é", "tree", "crash", "get", "\t", "\r", "dep", "group", "9999", "/"}
	for range 2000 {
		var text strings.Builder
		for range chance.Intn(60) {
			text.WriteString(pieces[chance.Intn(len(pieces))])
		}
		many := 0
		lines := strings.Split(text.String(), "\n")
		for _, line := range lines {
			if strings.Trim(line, " ") != "" {
				many++
			}
		}
		if got := Run(text.String()); strings.Count(got, "\n") != many || got != run(text.String()) {
			t.Fatalf("%q: %q", text.String(), got)
		}
		if want := len(lines); text.Len() > 0 && Count(text.String()) != want {
			t.Fatalf("Count of %q", text.String())
		}
	}
}
