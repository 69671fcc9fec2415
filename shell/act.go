package shell

import (
	"slices"
	"strconv"
	"strings"

	"selvedge/api"
	"selvedge/arm"
	"selvedge/delta"
	"selvedge/fd"
	"selvedge/image"
	"selvedge/stitch"
	"selvedge/tree"
)

const (
	blocks = 64 // of a shell's system
	per    = 8  // blocks on a track
	done   = "ok"
	none   = "-"
)

// shell is what lines are done with.
type shell struct {
	table *fd.Table // over the system
	arm   *arm.Arm
	kept  []api.Node
	did   strings.Builder // what was done, as answers
}

func begun() *shell {
	return &shell{table: fd.New(stitch.New(blocks)), arm: arm.New(api.Scan, per), kept: tree.New()}
}

func (s *shell) system() *stitch.System { return s.table.System() }

// do does a line, and writes its answer down.
func (s *shell) do(line string) {
	words, ok := Words(line)
	if ok && len(words) == 0 {
		return
	}
	answer := "quote"
	if ok {
		answer = s.answer(words)
	}
	s.did.WriteString(answer)
	s.did.WriteByte('\n')
}

// answer is what words answer.
func (s *shell) answer(words []string) string {
	a, ok := read(words)
	if !ok {
		return "word"
	}
	answer, e := s.act(a)
	if e != api.OK {
		return "error " + strconv.Itoa(int(e))
	}
	return answer
}

// act does what a line asks for; the answer counts only without an error.
func (s *shell) act(a asked) (string, api.Errno) {
	switch a.verb {
	case "next":
		if len(s.arm.Waiting()) == 0 {
			return none, api.OK
		}
		fallthrough
	case "open", "dup", "seek", "write", "go", "move", "lost", "check":
		n, e := s.count(a)
		return strconv.Itoa(n), e
	case "read", "at":
		data, e := s.data(a)
		return delta.Quote(data), e
	case "names", "stat", "diff", "tree":
		words, e := s.tell(a)
		return strings.Join(words, " "), e
	}
	return done, s.change(a)
}

// change does a line that answers nothing more than that it is done.
func (s *shell) change(a asked) (e api.Errno) {
	switch a.verb {
	case "close":
		e = s.table.Close(a.numbers[0])
	case "cut":
		e = s.table.Cut(a.numbers[0])
	case "rm":
		e = s.table.Unlink(a.texts[0])
	case "mv":
		e = s.table.Rename(a.texts[0], a.texts[1])
	case "do":
		e = s.system().Do(a.op)
	case "sync":
		e = s.system().Sync()
	case "flush":
		e = s.system().Flush()
	case "block":
		e = s.system().Write(a.numbers[0])
	case "ask":
		e = s.arm.Ask(a.numbers[0])
	case "keep":
		s.kept = s.system().Tree()
	case "crash":
		s.table = fd.New(stitch.Mount(s.system().Crash(nil)))
	}
	return e
}

// count is the number that a line answers.
func (s *shell) count(a asked) (n int, e api.Errno) {
	switch a.verb {
	case "open":
		n, e = s.table.Open(a.texts[0], a.numbers[0])
	case "dup":
		n, e = s.table.Dup(a.numbers[0])
	case "seek":
		n, e = s.table.Seek(a.numbers[0], a.numbers[1], a.numbers[2])
	case "write":
		n, e = s.table.Write(a.numbers[0], a.texts[0])
	case "next":
		n, _ = s.arm.Next()
	case "go":
		n = s.sweep()
	case "move":
		n = s.arm.Moved()
	case "lost":
		n = s.lost()
	case "check":
		var l []api.Defect
		l, e = image.Defects(s.system().Crash(nil))
		n = len(l)
	}
	return n, e
}

// sweep lets the arm go on until nothing is asked for, and writes each block that it goes to: how many. A block that can't be written is gone to, too.
func (s *shell) sweep() int {
	many := 0
	for block, ok := s.arm.Next(); ok; block, ok = s.arm.Next() {
		s.system().Write(block)
		many++
	}
	return many
}

// lost is how many paths would not be there, as they are, behind a crash.
func (s *shell) lost() int {
	there, _ := image.Tree(s.system().Crash(nil))
	gone := slices.DeleteFunc(s.system().Tree(), func(n api.Node) bool { return slices.Contains(there, n) })
	return len(gone)
}

// data is what a line reads.
func (s *shell) data(a asked) (string, api.Errno) {
	if a.verb == "at" {
		return s.table.At(a.numbers[0], a.numbers[1], a.numbers[2])
	}
	return s.table.Read(a.numbers[0], a.numbers[1])
}

// tell are the words that a line answers.
func (s *shell) tell(a asked) ([]string, api.Errno) {
	switch a.verb {
	case "names":
		names, e := s.table.Names(a.numbers[0], a.numbers[1])
		if len(names) == 0 {
			return []string{none}, e
		}
		return names, e
	case "stat":
		stat, e := s.table.Stat(a.numbers[0])
		return statWords(stat), e
	case "diff":
		l, e := delta.Diff(s.kept, s.system().Tree())
		return []string{strconv.Itoa(len(l)), strconv.Itoa(delta.Size(l))}, e
	}
	var paths []string
	for _, n := range s.system().Tree() {
		paths = append(paths, n.Path)
	}
	return paths, api.OK
}

// statWords are what a descriptor tells, as words.
func statWords(stat api.Stat) []string {
	kind := "file"
	if stat.Dir {
		kind = "dir"
	}
	return []string{kind, strconv.Itoa(stat.Size), strconv.Itoa(stat.Links), strconv.Itoa(stat.Pos), stat.Path}
}
