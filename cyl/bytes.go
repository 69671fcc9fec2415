package cyl

import (
	"selvedge/api"
	"selvedge/bitset"
)

// Where in a group's bytes things stand: ahead of the bits a byte each, behind them zeros, and at last the sum.
const (
	sign     = 'C'
	usedAt   = 6
	inodesAt = usedAt + api.CylBlocks/8
	zerosAt  = inodesAt + api.CylInodes/8
	sumAt    = api.BlockSize - 1
)

// sector is a block's bytes.
type sector [api.BlockSize]byte

// bytesOf are the bytes of a group that is right.
func bytesOf(c api.Cyl) sector {
	var b sector
	for at, n := range [usedAt]int{sign, c.Index, c.Blocks, c.FreeBlocks, c.FreeInodes, c.Rotor} {
		b[at] = byte(n)
	}
	used, _ := bitset.Make(inodesAt-usedAt, c.Used...)
	inodes, _ := bitset.Make(zerosAt-inodesAt, c.Inodes...)
	copy(b[usedAt:], used)
	copy(b[inodesAt:], inodes)
	for _, n := range b[:sumAt] {
		b[sumAt] += n
	}
	return b
}

// said is the group that bytes say, be it right or not.
func said(b sector) api.Cyl {
	return api.Cyl{
		Index:      int(b[1]),
		Blocks:     int(b[2]),
		FreeBlocks: int(b[3]),
		FreeInodes: int(b[4]),
		Rotor:      int(b[5]),
		Used:       bitset.List(b[usedAt:inodesAt]),
		Inodes:     bitset.List(b[inodesAt:zerosAt]),
	}
}
