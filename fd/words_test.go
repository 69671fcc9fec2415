package fd

import (
	"math/rand"
	"slices"
	"strings"
	"testing"

	"selvedge/api"
	"selvedge/image"
	"selvedge/stitch"
	"selvedge/tree"
)

// words are descriptors told by the chapter's words alone, over a system of their own.
type words struct {
	s    *stitch.System
	open map[int]word
}

// word is a descriptor: files are shared by their numbers.
type word struct {
	file  *place
	flags int
}

type place struct{ ino, pos int }

// least is the least number that is not taken.
func (w *words) least() (int, bool) {
	for n := range 12 {
		if _, taken := w.open[n]; !taken {
			return n, true
		}
	}
	return 0, false
}

// path is the least one that leads to an inode.
func (w *words) path(ino int) (string, bool) {
	img := w.s.Image()
	for _, n := range w.s.Tree() {
		if at, e := image.Find(img, n.Path); at == ino && e == api.OK {
			return n.Path, true
		}
	}
	return "", false
}

// paths is how many lead to an inode.
func (w *words) paths(ino int) int {
	img, many := w.s.Image(), 0
	for _, n := range w.s.Tree() {
		if at, _ := image.Find(img, n.Path); at == ino {
			many++
		}
	}
	return many
}

// inode is what the image says of a descriptor's inode, and its data.
func (w *words) inode(ino int) (api.Inode, string) {
	n, _ := image.Inode(w.s.Image(), ino)
	data, _ := image.Data(w.s.Image(), ino)
	return n, data
}

func (w *words) openPath(path string, flags int) (int, api.Errno) {
	asked := func(flag int) bool { return flags/flag%2 == 1 }
	if flags < 1 || flags > 63 || !asked(1) && !asked(2) {
		return 0, api.ErrRange
	}
	if _, e := tree.Split(path); e != api.OK {
		return 0, e
	}
	n, ok := w.least()
	if !ok {
		return 0, api.ErrFull
	}
	ino, e := image.Find(w.s.Image(), path)
	switch {
	case e == api.OK:
		inode, data := w.inode(ino)
		if asked(16) && asked(8) {
			return 0, api.ErrExist
		}
		if inode.Kind == api.Dir {
			if asked(2) || asked(32) {
				return 0, api.ErrIsdir
			}
		} else if asked(32) && data != "" {
			if !asked(2) {
				return 0, api.ErrState
			}
			if e := w.s.Do(api.Op{Kind: api.Truncate, Path: path}); e != api.OK {
				return 0, e
			}
		}
	case !asked(8):
		return 0, e
	default:
		if e := w.s.Do(api.Op{Kind: api.Create, Path: path}); e != api.OK {
			return 0, e
		}
		ino, _ = image.Find(w.s.Image(), path)
	}
	w.open[n] = word{&place{ino: ino}, flags}
	return n, api.OK
}

func (w *words) close(n int) api.Errno {
	if _, ok := w.open[n]; !ok {
		return api.ErrNoent
	}
	delete(w.open, n)
	return api.OK
}

func (w *words) dup(n int) (int, api.Errno) {
	d, ok := w.open[n]
	if !ok {
		return 0, api.ErrNoent
	}
	other, ok := w.least()
	if !ok {
		return 0, api.ErrFull
	}
	w.open[other] = d
	return other, api.OK
}

// led is a descriptor, with all that is there of its inode.
type led struct {
	word
	inode      api.Inode
	path, data string
}

func (l led) has(flag int) bool { return l.flags&flag != 0 }
func (l led) dir() bool         { return l.inode.Kind == api.Dir }

func (w *words) ask(n int) (led, api.Errno) {
	d, ok := w.open[n]
	if !ok {
		return led{}, api.ErrNoent
	}
	path, ok := w.path(d.file.ino)
	if !ok {
		return led{}, api.ErrNoent
	}
	inode, data := w.inode(d.file.ino)
	return led{d, inode, path, data}, api.OK
}

func (w *words) seek(n, off, whence int) (int, api.Errno) {
	l, e := w.ask(n)
	if e != api.OK {
		return 0, e
	}
	if l.dir() && (off != 0 || whence != 0) {
		return 0, api.ErrIsdir
	}
	if whence < 0 || whence > 2 || off < -256 || off > 256 {
		return 0, api.ErrRange
	}
	pos := off
	if whence == 1 {
		pos += l.file.pos
	}
	if whence == 2 {
		pos += l.inode.Size
	}
	if pos < 0 || pos > 256 {
		return 0, api.ErrRange
	}
	l.file.pos = pos
	return pos, api.OK
}

// part are at most so many bytes from one on.
func part(data string, from, many int) string {
	var b []byte
	for i := range len(data) {
		if i >= from && len(b) < many {
			b = append(b, data[i])
		}
	}
	return string(b)
}

func (w *words) read(n, many int) (string, api.Errno) {
	l, e := w.ask(n)
	switch {
	case e != api.OK:
		return "", e
	case !l.has(1):
		return "", api.ErrState
	case l.dir():
		return "", api.ErrIsdir
	case many < 0:
		return "", api.ErrRange
	}
	data := part(l.data, l.file.pos, many)
	l.file.pos += len(data)
	return data, api.OK
}

func (w *words) at(n, off, many int) (string, api.Errno) {
	l, e := w.ask(n)
	switch {
	case e != api.OK:
		return "", e
	case !l.has(1):
		return "", api.ErrState
	case l.dir():
		return "", api.ErrIsdir
	case many < 0 || off < 0 || off > 256:
		return "", api.ErrRange
	}
	return part(l.data, off, many), api.OK
}

func (w *words) write(n int, data string) (int, api.Errno) {
	l, e := w.ask(n)
	switch {
	case e != api.OK:
		return 0, e
	case !l.has(2):
		return 0, api.ErrState
	case l.dir():
		return 0, api.ErrIsdir
	}
	pos := l.file.pos
	if l.has(4) {
		pos = l.inode.Size
	}
	if data != "" && pos > l.inode.Size {
		return 0, api.ErrRange
	}
	written := 0
	for data != "" {
		piece := part(data, 0, 64)
		e := w.s.Do(api.Op{Kind: api.Write, Path: l.path, Off: pos, Data: piece})
		if e != api.OK && written == 0 {
			return 0, e
		}
		if e != api.OK {
			break
		}
		written += len(piece)
		pos += len(piece)
		data = strings.TrimPrefix(data, piece)
	}
	l.file.pos = pos
	return written, api.OK
}

func (w *words) names(n, many int) ([]string, api.Errno) {
	l, e := w.ask(n)
	switch {
	case e != api.OK:
		return nil, e
	case !l.has(1):
		return nil, api.ErrState
	case !l.dir():
		return nil, api.ErrNotdir
	case many < 0:
		return nil, api.ErrRange
	}
	all, _ := tree.Kids(w.s.Tree(), l.path)
	var some []string
	for i, name := range all {
		if i >= l.file.pos && len(some) < many {
			some = append(some, name)
		}
	}
	l.file.pos += len(some)
	return some, api.OK
}

func (w *words) cut(n int) api.Errno {
	l, e := w.ask(n)
	switch {
	case e != api.OK:
		return e
	case !l.has(2):
		return api.ErrState
	case !l.dir() && l.data == "":
		return api.OK
	}
	return w.s.Do(api.Op{Kind: api.Truncate, Path: l.path})
}

func (w *words) stat(n int) (api.Stat, api.Errno) {
	l, e := w.ask(n)
	if e != api.OK {
		return api.Stat{}, e
	}
	st := api.Stat{Dir: l.dir(), Size: len(l.data), Links: l.inode.Links, Pos: l.file.pos, Path: l.path}
	if st.Dir {
		st.Size, st.Links = 0, 1
	}
	return st, api.OK
}

func (w *words) unlink(path string) api.Errno {
	ino, e := image.Find(w.s.Image(), path)
	if inode, _ := w.inode(ino); e == api.OK && inode.Kind == api.File && w.paths(ino) == 1 {
		for _, d := range w.open {
			if d.file.ino == ino {
				return api.ErrBusy
			}
		}
	}
	return w.s.Do(api.Op{Kind: api.Unlink, Path: path})
}

func (w *words) flush(n int) api.Errno {
	if _, e := w.ask(n); e != api.OK {
		return e
	}
	return w.s.Sync()
}

// numbers are the descriptors, rising.
func (w *words) numbers() []int {
	var l []int
	for n := range w.open {
		l = append(l, n)
	}
	slices.Sort(l)
	return l
}

// fork is the same, over a fork of the system.
func (w *words) fork() *words {
	f := &words{w.s.Fork(), map[int]word{}}
	files := map[*place]*place{}
	for n, d := range w.open {
		if files[d.file] == nil {
			files[d.file] = &place{d.file.ino, d.file.pos}
		}
		f.open[n] = word{files[d.file], d.flags}
	}
	return f
}

// pair is a table, and the words.
type pair struct {
	tab   *Table
	w     *words
	times map[string]map[api.Errno]int
}

// path is one by chance: of something that is there, or of something in a directory.
func (p pair) path(chance *rand.Rand) string {
	t := p.w.s.Tree()
	path := t[chance.Intn(len(t))].Path
	if chance.Intn(2) == 0 || strings.Count(path, "/") == 4 {
		return path
	}
	return strings.TrimRight(path, "/") + "/" + string([]byte{byte('a' + chance.Intn(4))})
}

// one is a descriptor by chance, most often one that is open.
func (p pair) one(chance *rand.Rand) int {
	l := p.w.numbers()
	if len(l) == 0 || chance.Intn(12) == 0 {
		return chance.Intn(15) - 1
	}
	return l[chance.Intn(len(l))]
}

// flags are some by chance, most often such as may be.
func flags(chance *rand.Rand) int {
	switch chance.Intn(12) {
	case 0:
		return chance.Intn(80) - 8
	case 1, 2, 3:
		return 1 + chance.Intn(63)
	case 4, 5:
		return api.Reading
	case 6:
		return api.Cutting | 1 + chance.Intn(3)
	}
	return both | api.Creating*chance.Intn(2) | api.Appending*(chance.Intn(4)/3)
}

// data is some by chance.
func data(chance *rand.Rand) string {
	long := []int{0, 1, chance.Intn(10), chance.Intn(70), 64, 65, chance.Intn(320)}[chance.Intn(7)]
	return strings.Repeat(string([]byte{byte(chance.Intn(256))}), long)
}

// same counts a call of both, and fails the test where its answers differ.
func same[T comparable](t *testing.T, p pair, what string, got T, e api.Errno, want T, r api.Errno) {
	t.Helper()
	if got != want || e != r {
		t.Fatal(what, "answers", got, e, "not", want, r)
	}
	if p.times[what] == nil {
		p.times[what] = map[api.Errno]int{}
	}
	p.times[what][e]++
}

// stepFile does the same by chance to a descriptor of both.
func (p pair) stepFile(t *testing.T, chance *rand.Rand) {
	t.Helper()
	n := p.one(chance)
	off, many := chance.Intn(300)-20, chance.Intn(70)-4
	switch chance.Intn(10) {
	case 0, 1:
		off, whence := []int{0, 0, chance.Intn(10), chance.Intn(600) - 300}[chance.Intn(4)], []int{0, 0, 1, 1, 2, 2, chance.Intn(6) - 2}[chance.Intn(7)]
		got, e := p.tab.Seek(n, off, whence)
		want, r := p.w.seek(n, off, whence)
		same(t, p, "Seek", got, e, want, r)
	case 2, 3:
		got, e := p.tab.Read(n, many)
		want, r := p.w.read(n, many)
		same(t, p, "Read", got, e, want, r)
	case 4:
		got, e := p.tab.At(n, off, many)
		want, r := p.w.at(n, off, many)
		same(t, p, "At", got, e, want, r)
	case 5, 6, 7:
		d := data(chance)
		got, e := p.tab.Write(n, d)
		want, r := p.w.write(n, d)
		same(t, p, "Write", got, e, want, r)
	case 8:
		many = chance.Intn(8) - 1
		got, e := p.tab.Names(n, many)
		want, r := p.w.names(n, many)
		same(t, p, "Names", strings.Join(got, " "), e, strings.Join(want, " "), r)
	case 9:
		same(t, p, "Cut", 0, p.tab.Cut(n), 0, p.w.cut(n))
	}
}

// step does the same by chance to both; what is done beneath the table, too, if so it is asked for.
func (p pair) step(t *testing.T, chance *rand.Rand, beneath bool) {
	t.Helper()
	switch k := chance.Intn(24); {
	case k < 4:
		path, f := p.path(chance), flags(chance)
		if chance.Intn(16) == 0 {
			path += "/"
		}
		got, e := p.tab.Open(path, f)
		want, r := p.w.openPath(path, f)
		same(t, p, "Open", got, e, want, r)
	case k < 5:
		n := p.one(chance)
		same(t, p, "Close", 0, p.tab.Close(n), 0, p.w.close(n))
	case k < 6:
		n := p.one(chance)
		got, e := p.tab.Dup(n)
		want, r := p.w.dup(n)
		same(t, p, "Dup", got, e, want, r)
	case k < 8:
		path := p.path(chance)
		same(t, p, "Unlink", 0, p.tab.Unlink(path), 0, p.w.unlink(path))
	case k < 10:
		path, other := p.path(chance), p.path(chance)
		same(t, p, "Rename", 0, p.tab.Rename(path, other), 0, p.w.s.Do(api.Op{Kind: api.Rename, Path: path, Other: other}))
	case k < 11 && chance.Intn(3) == 0:
		n := p.one(chance)
		same(t, p, "Flush", 0, p.tab.Flush(n), 0, p.w.flush(n))
	case k < 13:
		kinds := []api.OpKind{api.Mkdir, api.Link}
		if beneath {
			kinds = append(kinds, api.Mkdir, api.Rmdir, api.Unlink, api.Create)
		}
		o := api.Op{Kind: kinds[chance.Intn(len(kinds))], Path: p.path(chance)}
		if o.Kind == api.Link {
			o.Other = p.path(chance)
		}
		same(t, p, "Do", 0, p.tab.System().Do(o), 0, p.w.s.Do(o))
	default:
		p.stepFile(t, chance)
	}
}

// tells fails the test unless both tell the same.
func (p pair) tells(t *testing.T) {
	t.Helper()
	is := told(p.tab)
	was := state{img: p.w.s.Image(), waiting: p.w.s.Waiting(), opened: p.w.numbers()}
	for _, n := range was.opened {
		st, e := p.w.stat(n)
		got, r := p.tab.Stat(n)
		same(t, p, "Stat", got, r, st, e)
		was.stats = append(was.stats, st)
	}
	if !is.same(was) {
		t.Fatal(is, "not", was)
	}
}

// follows fails the test unless what follows holds: P20.5; P20.6, if nothing was done beneath.
func (p pair) follows(t *testing.T, beneath bool) {
	t.Helper()
	read := map[string]string{} // by paths
	for _, n := range p.tab.Opened() {
		st, e := p.tab.Stat(n)
		if e != api.OK && !beneath {
			t.Fatal("P20.6", n, e)
		}
		if e != api.OK || st.Dir {
			continue
		}
		all, e := p.tab.At(n, 0, api.MaxSize)
		if e != api.OK {
			continue
		}
		if other, ok := read[st.Path]; ok && other != all || len(all) != st.Size {
			t.Fatal("P20.5", n, all, other, st)
		}
		read[st.Path] = all
	}
}

// P20.1 to P20.6, E1, E6, E7: long rows of calls against the words.
func TestAgainstTheWords(t *testing.T) {
	chance := rand.New(rand.NewSource(20))
	times := map[string]map[api.Errno]int{}
	for round := range 80 {
		s := stitch.New([]int{96, 16 + chance.Intn(10), 96}[round%3])
		p := pair{New(s), &words{s.Fork(), map[int]word{}}, times}
		beneath := round%2 == 0
		for range 120 {
			p.step(t, chance, beneath)
			p.tells(t)
			p.follows(t, beneath)
			if chance.Intn(30) == 0 { // P4
				left := told(p.tab)
				other := pair{p.tab.Fork(), p.w.fork(), times}
				for range 6 {
					other.step(t, chance, beneath)
					other.tells(t)
				}
				if !left.same(told(p.tab)) {
					t.Fatal("a Fork changed it")
				}
			}
			if chance.Intn(12) == 0 {
				s.Sync()
				p.w.s.Sync()
			}
		}
	}
	for what, errs := range map[string][]api.Errno{
		"Open":  {api.OK, api.ErrRange, api.ErrForm, api.ErrFull, api.ErrExist, api.ErrIsdir, api.ErrState, api.ErrNoent, api.ErrNotdir},
		"Close": {api.OK, api.ErrNoent}, "Dup": {api.OK, api.ErrNoent, api.ErrFull},
		"Seek": {api.OK, api.ErrNoent, api.ErrIsdir, api.ErrRange}, "Read": {api.OK, api.ErrNoent, api.ErrState, api.ErrIsdir, api.ErrRange},
		"At":    {api.OK, api.ErrNoent, api.ErrState, api.ErrIsdir, api.ErrRange},
		"Write": {api.OK, api.ErrNoent, api.ErrState, api.ErrRange, api.ErrSpace}, "Names": {api.OK, api.ErrNoent, api.ErrState, api.ErrNotdir, api.ErrRange},
		"Cut": {api.OK, api.ErrNoent, api.ErrState}, "Unlink": {api.OK, api.ErrBusy, api.ErrNoent, api.ErrIsdir}, "Rename": {api.OK, api.ErrExist},
		"Flush": {api.OK, api.ErrNoent}, "Stat": {api.OK, api.ErrNoent},
	} {
		for _, e := range errs {
			if times[what][e] < 3 {
				t.Error("too few of", what, e, times[what])
			}
		}
	}
}
