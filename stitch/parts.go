package stitch

import (
	"iter"
	"slices"

	"selvedge/api"
	"selvedge/cache"
	"selvedge/disk"
	"selvedge/engine"
	"selvedge/group"
)

// parts are what a system is made of: what writes its patches, the groups that these are of, and the blocks at hand.
type parts struct {
	*engine.Engine
	*group.Groups
	hand *cache.Cache
}

func (p parts) fork() parts {
	return parts{p.Engine.Fork(), p.Groups.Fork(), p.hand.Fork()}
}

// take takes the patches of a plan in.
func (p parts) take(l []api.Item) api.Errno {
	for _, item := range l {
		if _, e := p.hand.Use(item.Patch.Block); e != api.OK {
			return api.ErrFull
		}
	}
	first, e := p.Add(p.ordered(l)...)
	if e != api.OK {
		return api.ErrFull
	}
	for i, item := range l {
		// A block that is clean may have gone again for a later one of the plan: that has an error, and is of no matter.
		p.hand.Dirty(item.Patch.Block, true)
		p.Took(first + i)
	}
	return api.OK
}

// ordered are the patches of a plan as the engine takes them, each behind all that groups say beside. As P15.2 says, behind nothing more: not behind the patch that takes the same name from another place of its directory.
func (p parts) ordered(l []api.Item) []api.Item {
	ahead := p.Behind()
	var all []api.Item
	for _, item := range l {
		deps := slices.Clone(ahead)
		for _, d := range item.Deps {
			deps = append(deps, -1-d)
		}
		all = append(all, api.Item{Patch: item.Patch, Deps: deps})
	}
	return all
}

// settle lets those blocks at hand be clean on which nothing waits.
func (p parts) settle() {
	dirty := p.Engine.Dirty()
	for _, block := range p.hand.List() {
		if !slices.Contains(dirty, block) {
			p.hand.Dirty(block, false)
		}
	}
}

// syncGroup writes and flushes until nothing of a group waits.
func (p parts) syncGroup(n int) api.Errno {
	for p.waits(n) {
		waited := len(p.Waiting())
		for i := range p.Size() {
			p.Write(i)
		}
		p.Flush()
		if len(p.Waiting()) == waited {
			return api.ErrIO
		}
	}
	return api.OK
}

// waits: does a patch of a group wait?
func (p parts) waits(n int) bool {
	waiting := p.Waiting()
	return slices.ContainsFunc(p.Patches(n), func(number int) bool {
		_, ok := slices.BinarySearch(waiting, number)
		return ok
	})
}

// left goes through what a disk has left behind a crash, block by block.
func left(d *disk.Disk) iter.Seq[disk.Sector] {
	return func(yield func(disk.Sector) bool) {
		for i := range d.Size() {
			if sector, _ := d.Lasting(i); !yield(sector) {
				return
			}
		}
	}
}
