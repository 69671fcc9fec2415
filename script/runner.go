package script

import (
	"strconv"
	"strings"

	"selvedge/api"
	"selvedge/check"
	"selvedge/stitch"
)

const done = "ok"

// runner runs lines; the system inside is another one behind each crash.
type runner struct {
	*stitch.System
}

// answer is what a line answers.
func (r *runner) answer(words []string) string {
	l, ok := read(words)
	if !ok {
		return "word"
	}
	answer, e := r.act(l)
	if e != api.OK {
		return "error " + strconv.Itoa(int(e))
	}
	return answer
}

// act does what a line asks for; the answer counts only without an error.
func (r *runner) act(l line) (string, api.Errno) {
	switch l.word {
	case "put":
		l.op.Off = l.n
		fallthrough
	case "make", "mkdir", "del", "rmdir", "cut", "ln", "mv":
		l.op.Kind = kind(l.word)
		return done, r.Do(l.op)
	case "get", "ls", "check", "tree", "wait":
		return r.tell(l)
	case "write":
		return done, r.Write(l.n)
	case "spoil", "heal":
		return done, r.Spoil(l.n, l.word == "spoil")
	case "flush":
		return done, r.Flush()
	case "sync":
		return done, r.Sync()
	case "crash":
		r.System = stitch.Mount(r.Crash(nil))
		return done, api.OK
	case "group":
		n, e := r.Group()
		return done + " " + strconv.Itoa(n), e
	case "dep":
		return done, r.Depend(l.n, l.m)
	}
	return done, r.turn(l.word)(l.n)
}

// turn is what a word does to one group.
func (r *runner) turn(word string) func(n int) api.Errno {
	switch word {
	case "on":
		return r.Engage
	case "off":
		return r.Disengage
	case "free":
		return r.Release
	case "drop":
		return r.Abandon
	}
	return r.SyncGroup
}

// tell answers what there is, and changes nothing.
func (r *runner) tell(l line) (string, api.Errno) {
	switch l.word {
	case "get":
		data, e := r.Read(l.op.Path)
		first := 0
		if data != "" {
			first = int(data[0])
		}
		return strconv.Itoa(len(data)) + " " + strconv.Itoa(first), e
	case "ls":
		names, e := r.List(l.op.Path)
		if len(names) == 0 {
			return "-", e
		}
		return strings.Join(names, " "), e
	case "check":
		_, defects, e := check.Check(r.Image())
		return strconv.Itoa(len(defects)), e
	case "tree":
		var paths []string
		for _, n := range r.Tree() {
			paths = append(paths, n.Path)
		}
		return strings.Join(paths, " "), api.OK
	}
	return strconv.Itoa(r.Waiting()), api.OK
}

// kind is what a word's operation does.
func kind(word string) api.OpKind {
	switch word {
	case "make":
		return api.Create
	case "mkdir":
		return api.Mkdir
	case "ln":
		return api.Link
	case "del":
		return api.Unlink
	case "rmdir":
		return api.Rmdir
	case "mv":
		return api.Rename
	case "put":
		return api.Write
	}
	return api.Truncate
}
