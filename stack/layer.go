package stack

import (
	"slices"

	"selvedge/api"
	"selvedge/patch"
)

// sector is a block's bytes.
type sector [api.BlockSize]byte

// link is where a patch stands: its number, and the one that is right below it.
type link struct {
	number int
	below  *layer
}

// layer is a patch that is on. None is ever changed: forks share them.
type layer struct {
	api.Patch
	link
}

// rising are all that are below, the lowest one first.
func (k link) rising() []*layer {
	var l []*layer
	for on := k.below; on != nil; on = on.below {
		l = append(l, on)
	}
	slices.Reverse(l)
	return l
}

// needs are those below that it can't be there without, the lowest one first.
func (l *layer) needs() []*layer {
	return slices.DeleteFunc(l.rising(), func(other *layer) bool { return !l.meets(other) })
}

// meets: do both write the same byte?
func (l *layer) meets(other *layer) bool {
	return patch.Overlap(l.Patch, other.of(l.Block))
}

// of is the patch as one of that block: on a stack all are of one, whatever they say.
func (l *layer) of(block int) api.Patch {
	p := l.Patch
	p.Block = block
	return p
}

// set is numbers of patches.
type set map[int]struct{}

func (s set) has(l *layer) bool {
	_, ok := s[l.number]
	return ok
}

func (s set) lacks(l *layer) bool { return !s.has(l) }

func numbers(l []*layer) []int {
	var all []int
	for _, on := range l {
		all = append(all, on.number)
	}
	return all
}
