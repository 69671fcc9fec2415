package hard

import (
	"cmp"
	"slices"

	"selvedge/api"
	"selvedge/patch"
)

// unit is patches of one block that last together.
type unit struct {
	number, block int
	patches       []*waiter // rising
	written       bool      // is it in a Write behind which there was no Flush?
}

// waiter is a patch that waits. It is never changed: forks share it.
type waiter struct {
	number int
	patch  api.Patch
	ahead  []int // those that it comes behind and that waited when it was added
	unit   int
}

func (u *unit) fork() *unit {
	other := *u
	other.patches = slices.Clone(u.patches)
	return &other
}

func (u *unit) numbers() []int {
	var l []int
	for _, w := range u.patches {
		l = append(l, w.number)
	}
	return l
}

// ask: is there an engine, and has its disk an i-th block?
func (e *Engine) ask(i int) api.Errno {
	if e == nil {
		return api.ErrNil
	}
	_, r := e.own.Lasting(i)
	return r
}

// refuses is the error for which patches can't be added.
func (e *Engine) refuses(l []api.Item) api.Errno {
	for _, item := range l {
		if !patch.Right(item.Patch) || item.Patch.Block >= e.Size() {
			return api.ErrForm
		}
	}
	for at, item := range l {
		for _, d := range item.Deps {
			if d >= e.next || place(d) >= at {
				return api.ErrRange
			}
		}
	}
	if len(l) > api.MaxPending-len(e.waiting) {
		return api.ErrFull
	}
	return api.OK
}

// add lets a patch wait, or last at once; first is the number of the first one of the call.
func (e *Engine) add(item api.Item, first int) {
	n := e.next
	e.next++
	ahead := e.ahead(item, first)
	if len(ahead) == 0 && patch.Idle(e.behind(item.Patch.Block, e.on(item.Patch.Block)), item.Patch) {
		e.idle++
		return
	}
	home, ok := e.home(item.Patch.Block, ahead)
	if ok {
		e.joined++
	} else {
		home = &unit{number: n, block: item.Patch.Block}
		e.units[n] = home
	}
	w := &waiter{n, item.Patch, ahead, home.number}
	home.patches = append(home.patches, w)
	e.waiting[n] = w
}

// ahead are those that wait and that a patch comes behind, rising.
func (e *Engine) ahead(item api.Item, first int) []int {
	named := map[int]struct{}{}
	for _, d := range item.Deps {
		if d < 0 {
			d = first + place(d)
		}
		if _, waits := e.waiting[d]; waits {
			named[d] = struct{}{}
		}
	}
	var l []int
	for n, w := range e.waiting {
		if _, ok := named[n]; ok || patch.Overlap(w.patch, item.Patch) {
			l = append(l, n)
		}
	}
	slices.Sort(l)
	return l
}

// home is the unit that a patch joins; false: none.
func (e *Engine) home(block int, ahead []int) (*unit, bool) {
	on := e.on(block)
	if len(on) == 0 {
		return nil, false
	}
	last := on[len(on)-1]
	if last.written {
		return nil, false
	}
	have := e.closed(last)
	for _, n := range ahead {
		if _, ok := have[n]; !ok {
			return nil, false
		}
	}
	return last, true
}

// closed are a unit's patches, and all that wait and that one of these comes behind, over some others or at once.
func (e *Engine) closed(u *unit) map[int]struct{} {
	all := map[int]struct{}{}
	left := u.numbers()
	for len(left) > 0 {
		n := left[len(left)-1]
		left = left[:len(left)-1]
		w, waits := e.waiting[n]
		if _, seen := all[n]; seen || !waits {
			continue
		}
		all[n] = struct{}{}
		left = append(left, w.ahead...)
	}
	return all
}

// on are the units that wait on a block, rising.
func (e *Engine) on(i int) []*unit {
	var l []*unit
	for _, u := range e.units {
		if u.block == i {
			l = append(l, u)
		}
	}
	slices.SortFunc(l, func(a, b *unit) int { return cmp.Compare(a.number, b.number) })
	return l
}

// ready is the greatest set of units that wait on a block, of which each patch comes behind such alone that last or are in it.
func (e *Engine) ready(i int) []*unit {
	set := e.on(i)
	// Who joins a unit comes behind nothing that this did not come behind: so all that a unit comes behind are of smaller numbers, and who was let stay once, stays.
shrink:
	for at := 0; at < len(set); {
		for _, w := range set[at].patches {
			for _, n := range w.ahead {
				if other, waits := e.waiting[n]; waits && !has(set[:at+1], other.unit) {
					set = slices.Delete(set, at, at+1)
					continue shrink
				}
			}
		}
		at++
	}
	return set
}

// behind are a block's bytes that last, with the patches of some of its units applied.
func (e *Engine) behind(i int, set []*unit) []byte {
	// Only a block's last unit is joined: so all patches of one unit are ahead of those of the next one, and this is their order.
	var l []api.Patch
	for _, u := range set {
		for _, w := range u.patches {
			l = append(l, w.patch)
		}
	}
	sector, _ := e.own.Lasting(i)
	b, _ := patch.All(sector[:], l)
	return b
}

// settle lets a unit last.
func (e *Engine) settle(u *unit) {
	for _, w := range u.patches {
		delete(e.waiting, w.number)
	}
	delete(e.units, u.number)
}

// place is where in the call the patch stands that a number below 0 names; of other numbers it is below 0.
func place(d int) int {
	return -1 - d
}

// has: is the unit of that number in a rising set?
func has(set []*unit, number int) bool {
	_, ok := slices.BinarySearchFunc(set, number, func(u *unit, n int) int { return cmp.Compare(u.number, n) })
	return ok
}
