package fd

import (
	"selvedge/api"
	"selvedge/image"
)

// use is what a descriptor is used for.
type use byte

const (
	toTell use = iota
	toMove
	toRead
	toWrite
	toList
	toCut
)

// lead is a descriptor with what it leads to, if it may be used so.
func (t *Table) lead(n int, u use) (found, api.Errno) {
	d, e := t.ask(n)
	if e != api.OK {
		return found{}, e
	}
	f, ok := t.find(d)
	if !ok {
		return found{}, api.ErrNoent
	}
	if e := f.may(u); e != api.OK {
		return found{}, e
	}
	return f, api.OK
}

// may is the error for which it can't be used so.
func (f found) may(u use) api.Errno {
	flag := api.Reading
	switch u {
	case toWrite:
		flag = api.Writing
		fallthrough
	case toRead:
		if f.flags&flag == 0 {
			return api.ErrState
		}
		fallthrough
	case toMove:
		if f.Kind == api.Dir {
			return api.ErrIsdir
		}
	case toList:
		if f.flags&api.Reading == 0 {
			return api.ErrState
		}
		if f.Kind != api.Dir {
			return api.ErrNotdir
		}
	case toCut:
		if f.flags&api.Writing == 0 {
			return api.ErrState
		}
	}
	return api.OK
}

// mayOpen: can something be opened with these flags?
func mayOpen(flags int) bool {
	const all = api.Reading | api.Writing | api.Appending | api.Creating | api.Alone | api.Cutting
	return flags&^all == 0 && flags&(api.Reading|api.Writing) != 0
}

// enter lets a path be as flags ask, and answers its inode.
func (t *Table) enter(path string, flags int) (int, api.Errno) {
	img := t.system.Image()
	ino, e := image.Find(img, path)
	if e == api.OK {
		inode, _ := image.Inode(img, ino)
		return ino, t.again(path, inode, flags)
	}
	if flags&api.Creating == 0 {
		return 0, e
	}
	if e := t.system.Do(api.Op{Kind: api.Create, Path: path}); e != api.OK {
		return 0, e
	}
	return image.Find(t.system.Image(), path)
}

// again lets what is there be as flags ask.
func (t *Table) again(path string, inode api.Inode, flags int) api.Errno {
	const fresh = api.Alone | api.Creating
	switch {
	case flags&fresh == fresh:
		return api.ErrExist
	case inode.Kind == api.Dir && flags&(api.Writing|api.Cutting) != 0:
		return api.ErrIsdir
	case flags&api.Cutting == 0 || inode.Size == 0:
		return api.OK
	case flags&api.Writing == 0:
		return api.ErrState
	}
	return t.cut(path)
}

func (t *Table) cut(path string) api.Errno {
	return t.system.Do(api.Op{Kind: api.Truncate, Path: path})
}

// write writes pieces of data, until one has an error: how many bytes; if there are none, the error.
func (t *Table) write(path string, at int, data string) (int, api.Errno) {
	many := 0
	for many < len(data) {
		piece := data[many:min(many+api.MaxWrite, len(data))]
		e := t.system.Do(api.Op{Kind: api.Write, Path: path, Off: at + many, Data: piece})
		if e != api.OK && many == 0 {
			return 0, e
		}
		if e != api.OK {
			return many, api.OK
		}
		many += len(piece)
	}
	return many, api.OK
}
