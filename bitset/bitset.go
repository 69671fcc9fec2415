// Package bitset is bits in bytes. See ../../shared/doc/02-bitset.md.
package bitset

import (
	"iter"
	"math/bits"

	"selvedge/api"
)

const maxSize = 64 // bytes that are made at most

// Get is a bit; Set are bytes with a bit set, or not; Count how many are set; First the first one of some that is not set; Runs the rows of bits that are set: where each begins, and how long it is.
func Get(b []byte, i int) bool {
	return there(len(b), i) && b[i/8]&mask(i) != 0
}

func Set(b []byte, i int, on bool) ([]byte, api.Errno) {
	if !there(len(b), i) {
		return nil, api.ErrRange
	}
	answer := make([]byte, len(b))
	copy(answer, b)
	if on {
		answer[i/8] |= mask(i)
	} else {
		answer[i/8] &^= mask(i)
	}
	return answer, api.OK
}

func Count(b []byte) int {
	many := 0
	for at := range len(b) {
		many += bits.OnesCount8(b[at])
	}
	return many
}

func First(b []byte, from, to int) (int, bool) {
	for i := max(from, 0); i < to && there(len(b), i); i++ {
		if !Get(b, i) {
			return i, true
		}
	}
	return 0, false
}

func Runs(b []byte) [][2]int {
	var rows [][2]int
	behind := -1 // the bit behind the last row
	for i := range ones(b) {
		if i != behind {
			rows = append(rows, [2]int{i, 0})
		}
		rows[len(rows)-1][1]++
		behind = i + 1
	}
	return rows
}

// Make are bytes whose bits are those; List are the bits that are set; Without are the bits of the first that the second has not.
func Make(size int, l ...int) ([]byte, api.Errno) {
	if size < 0 || size > maxSize {
		return nil, api.ErrRange
	}
	answer := make([]byte, size)
	for _, i := range l {
		if !there(size, i) {
			return nil, api.ErrRange
		}
		answer[i/8] |= mask(i)
	}
	return answer, api.OK
}

func List(b []byte) []int {
	return Without(b, nil)
}

func Without(a, b []byte) []int {
	var l []int
	for i := range ones(a) {
		if !Get(b, i) {
			l = append(l, i)
		}
	}
	return l
}

// there: have so many bytes an i-th bit? The number of bits is not reckoned: it could go round.
func there(size, i int) bool {
	return i >= 0 && i/8 < size
}

// mask is the i-th bit's value in its byte.
func mask(i int) byte {
	return 1 << (i % 8)
}

// ones goes through the bits that are set, rising.
func ones(b []byte) iter.Seq[int] {
	return func(yield func(int) bool) {
		for at := range len(b) {
			for rest := b[at]; rest != 0; rest &= rest - 1 {
				if !yield(at*8 + bits.TrailingZeros8(rest)) {
					return
				}
			}
		}
	}
}
