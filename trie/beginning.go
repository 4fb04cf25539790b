package trie

import (
	"math/bits"

	"pointsman/api"
)

// How many bits a byte has.
const byteBits = 8

// beginning is the first n bits of an address; what stands behind them in it is
// not asked for.
type beginning struct {
	addr [api.MaxAddr]byte
	n    int
}

// begin tells the first n bits of an address, which has them.
func begin(addr []byte, n int) beginning {
	b := beginning{n: n}
	copy(b.addr[:], addr)
	return b
}

// common tells how many first bits two beginnings share.
func (b beginning) common(other beginning) int {
	most := min(b.n, other.n)
	for i := 0; i*byteBits < most; i++ {
		if apart := b.addr[i] ^ other.addr[i]; apart != 0 {
			return min(i*byteBits+bits.LeadingZeros8(apart), most)
		}
	}
	return most
}

// bit tells the bit at a place, counted from the highest one of the first byte.
func (b beginning) bit(at int) int {
	return int(b.addr[at/byteBits] >> (byteBits - 1 - at%byteBits) & 1)
}
