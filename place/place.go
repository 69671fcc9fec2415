// Package place is where blocks lie: on tracks, as complex numbers. See ../../shared/doc/01-place.md.
package place

import (
	"math"

	"selvedge/api"
)

const (
	maxPer   = 64      // places of a track at most
	farthest = 1 << 20 // a part of a plain place at most, on both sides
	maxOfAll = 1000    // places that have a middle
)

// At is where a block lies, on tracks of so many: the track, and the place on it; Block which block lies there.
func At(block, per int) (complex128, api.Errno) {
	if block < 0 || block >= api.MaxPlaces || per < 1 || per > maxPer {
		return 0, api.ErrRange
	}
	return complex(float64(block/per), float64(block%per)), api.OK
}

func Block(z complex128, per int) (int, bool) {
	if !plain(z) || per < 1 || per > maxPer {
		return 0, false
	}
	block := int(real(z))*per + int(imag(z))
	at, e := At(block, per)
	if e != api.OK || at != z {
		return 0, false
	}
	return block, true
}

// Way is how far it is from one place to another; Route how far it is to go to blocks, one behind the other; Next the one that is nearest; Sweep all, the nearest first each time.
func Way(a, b complex128) int {
	if !plain(a) || !plain(b) {
		return 0
	}
	apart := b - a
	return int(math.Abs(real(apart)) + math.Abs(imag(apart)))
}

func Route(from int, l []int, per int) (int, api.Errno) {
	here, places, e := lay(from, l, per)
	if e != api.OK {
		return 0, e
	}
	far := 0
	for _, there := range places {
		far += Way(here, there)
		here = there
	}
	return far, api.OK
}

func Next(from int, l []int, per int) (int, bool) {
	here, places, e := lay(from, l, per)
	if e != api.OK || len(l) == 0 {
		return 0, false
	}
	return nearest(here, places), true
}

func Sweep(from int, l []int, per int) ([]int, api.Errno) {
	here, _, e := lay(from, l, per)
	if e != api.OK {
		return nil, e
	}
	// A block that was just gone to is the nearest one as long as it is left once more: so those that are alike go together, and as many rounds as there are places are enough, however long l is.
	left, times := once(l)
	_, places, _ := lay(from, left, per)
	all := make([]int, 0, len(l))
	for range len(left) {
		n := nearest(here, places)
		for range times[left[n]] {
			all = append(all, left[n])
		}
		here = places[n]
		left = without(left, n)
		places = without(places, n)
	}
	return all, api.OK
}

// lay is where the block from lies, and where those of l do.
func lay(from int, l []int, per int) (complex128, []complex128, api.Errno) {
	here, e := At(from, per)
	if e != api.OK {
		return 0, nil, e
	}
	places := make([]complex128, len(l))
	for i, block := range l {
		if places[i], e = At(block, per); e != api.OK {
			return 0, nil, e
		}
	}
	return here, places, api.OK
}

// nearest is which one of places is, of several the first one.
func nearest(here complex128, places []complex128) int {
	best, least := 0, math.MaxInt
	for i, there := range places {
		if far := Way(here, there); far < least {
			best, least = i, far
		}
	}
	return best
}

// once are the blocks of l, each where it comes first, and how many times l has each block.
func once(l []int) ([]int, [api.MaxPlaces]int) {
	var blocks []int
	var times [api.MaxPlaces]int
	for _, block := range l {
		if times[block] == 0 {
			blocks = append(blocks, block)
		}
		times[block]++
	}
	return blocks, times
}

// without is l, which is changed, without the one at n; the others stay in their order.
func without[T any](l []T, n int) []T {
	return append(l[:n], l[n+1:]...)
}

// Middle is the middle of places; Turn turns a place about the beginning, by quarters.
func Middle(l []complex128) complex128 {
	if len(l) == 0 || len(l) > maxOfAll {
		return 0
	}
	sum := complex(0, 0)
	for _, z := range l {
		if !plain(z) {
			return 0
		}
		sum += z
	}
	many := float64(len(l))
	return complex(real(sum)/many, imag(sum)/many)
}

func Turn(z complex128, quarters int) complex128 {
	if !plain(z) {
		return 0
	}
	for range (quarters%4 + 4) % 4 {
		z *= 1i
	}
	return z
}

// plain: are both parts whole numbers that are not too great? What is no number is not even equal to itself, and so is none.
func plain(z complex128) bool {
	for _, part := range [2]float64{real(z), imag(z)} {
		if part != math.Trunc(part) {
			goto bent
		}
		if math.Abs(part) > farthest {
			goto bent
		}
	}
	return true
bent:
	return false
}
