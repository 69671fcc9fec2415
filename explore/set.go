package explore

import (
	"iter"

	"selvedge/api"
	"selvedge/graph"
)

const small = 14 // numbers of small deps, and small items

// set is a set of numbers below small, as a number: each member n counts 2^n.
type set uint

func (s set) has(n int) bool {
	return s>>n&1 == 1
}

func (s set) with(n int) set {
	return s | 1<<n
}

// within: are all of s in another one?
func (s set) within(other set) bool {
	return s&^other == 0
}

// members are those of s, rising.
func (s set) members() []int {
	var l []int
	for n := range small {
		if s.has(n) {
			l = append(l, n)
		}
	}
	return l
}

// needs are, of each number, those that must come right ahead of it.
type needs []set

// needsOf are those of small deps.
func needsOf(deps [][]int) (needs, api.Errno) {
	if len(deps) > small || !graph.Right(deps) {
		return nil, api.ErrForm
	}
	l := make(needs, len(deps))
	for n, row := range deps {
		for _, d := range row {
			l[n] = l[n].with(d)
		}
	}
	return l, api.OK
}

// ahead are all that must come right ahead of a member of s.
func (l needs) ahead(s set) set {
	var all set
	for n, need := range l {
		if s.has(n) {
			all |= need
		}
	}
	return all
}

// closed goes through the closed sets, in order.
func (l needs) closed() iter.Seq[set] {
	return func(yield func(set) bool) {
		for s := range set(1) << len(l) {
			if l.ahead(s).within(s) && !yield(s) {
				return
			}
		}
	}
}

// count is how many sets are closed.
func (l needs) count() int {
	many := 0
	for range l.closed() {
		many++
	}
	return many
}
