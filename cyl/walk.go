package cyl

import (
	"iter"
	"slices"

	"selvedge/api"
)

const farthest = 15 // groups behind its own in which a file's inode is looked for, ahead of all others

// round goes through the numbers below many, from one on, and then from 0 on.
func round(from, many int) iter.Seq[int] {
	return func(yield func(int) bool) {
		for step := range many {
			if !yield((from + step) % many) {
				return
			}
		}
	}
}

// searched goes through the groups in which a file's inode is looked for: its own, then some further and further behind, then all.
func searched(group, many int) iter.Seq[int] {
	return func(yield func(int) bool) {
		if !yield(group) {
			return
		}
		for behind := 1; behind <= min(many, farthest); behind = 2*behind + 1 {
			if !yield((group + behind) % many) {
				return
			}
		}
		for g := range round(group, many) {
			if !yield(g) {
				return
			}
		}
	}
}

// use takes a free block of a group.
func use(l []api.Cyl, g, block int) ([]api.Cyl, api.Addr, api.Errno) {
	next := forks(l)
	c := &next[g]
	c.Used = with(c.Used, block)
	c.FreeBlocks--
	c.Rotor = (block + 1) % c.Blocks
	return next, api.Addr{Group: g, Block: block}, api.OK
}

// inode takes the first free inode of a group, if it has one.
func inode(l []api.Cyl, g int) ([]api.Cyl, api.Addr, api.Errno) {
	for ino := range api.CylInodes {
		if !has(l[g].Inodes, ino) {
			next := forks(l)
			c := &next[g]
			c.Inodes = with(c.Inodes, ino)
			c.FreeInodes--
			return next, api.Addr{Group: g, Block: ino}, api.OK
		}
	}
	return nil, api.Addr{}, api.ErrSpace
}

// isBlock: is a a block of a group?
func isBlock(l []api.Cyl, a api.Addr) bool {
	return among(a.Group, len(l)) && among(a.Block, l[a.Group].Blocks)
}

// among: is n from 0 on, and below many?
func among(n, many int) bool {
	return n >= 0 && n < many
}

// rises: do numbers rise, from 0 on and below many?
func rises(l []int, many int) bool {
	least := 0
	for _, n := range l {
		if n < least || n >= many {
			return false
		}
		least = n + 1
	}
	return true
}

// has, with, without are of a list that rises; with and without change it.
func has(l []int, n int) bool {
	_, ok := slices.BinarySearch(l, n)
	return ok
}

func with(l []int, n int) []int {
	at, _ := slices.BinarySearch(l, n)
	return slices.Insert(l, at, n)
}

func without(l []int, n int) []int {
	at, _ := slices.BinarySearch(l, n)
	return slices.Delete(l, at, at+1)
}

// fork is a group with lists of its own; forks are all so.
func fork(c api.Cyl) api.Cyl {
	c.Used = slices.Clone(c.Used)
	c.Inodes = slices.Clone(c.Inodes)
	return c
}

func forks(l []api.Cyl) []api.Cyl {
	next := make([]api.Cyl, len(l))
	for i, c := range l {
		next[i] = fork(c)
	}
	return next
}
