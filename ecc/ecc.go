// Package ecc: words with check bits; see doc/01-ecc.md.
package ecc

import (
	"math/bits"

	"flintstore/api"
)

// The positions of the lowest and of the highest bit of a word.
const (
	firstPosition = 3
	lastPosition  = 71
)

// parityBit is the check bit that makes the number of 1 bits even.
const parityBit = 1 << 7

// Check returns the check bits of d.
func Check(d uint64) byte {
	sum := positionSum(d)
	if odd(d, sum) {
		return sum | parityBit
	}
	return sum
}

// Mend returns the word and the check bits that d and c were before at most
// one of their bits changed, and how many bits it changed back.
func Mend(d uint64, c byte) (uint64, byte, int, api.Errno) {
	wrong := Check(d) ^ c
	if wrong == 0 {
		return d, c, 0, api.OK
	}
	// A single change makes the number of 1 bits odd; where it is still even,
	// at least two bits have changed.
	if !odd(d, c) {
		return 0, 0, 0, api.ErrSum
	}
	place := uint(positionSum(d) ^ c&^parityBit)
	switch {
	case place == 0:
		return d, c ^ parityBit, 1, api.OK
	case isPower(place):
		return d, c ^ byte(place), 1, api.OK
	case place <= lastPosition:
		return d ^ 1<<wordBit(place), c, 1, api.OK
	}
	return 0, 0, 0, api.ErrSum
}

// positionSum returns the exclusive or of the positions of the 1 bits of d.
func positionSum(d uint64) byte {
	sum := uint(0)
	for p := uint(firstPosition); p <= lastPosition; p++ {
		if !isPower(p) && d>>wordBit(p)&1 == 1 {
			sum ^= p
		}
	}
	return byte(sum)
}

// wordBit returns which bit of a word has the position p.
func wordBit(p uint) int {
	// Of the numbers from 1 to p, bits.Len(p) are powers of two and stand for
	// check bits.
	return int(p) - bits.Len(p) - 1
}

// isPower reports whether p, which is not 0, is a power of two.
func isPower(p uint) bool {
	return p&(p-1) == 0
}

// odd reports whether the number of 1 bits in d and c together is odd.
func odd(d uint64, c byte) bool {
	return (bits.OnesCount64(d)+bits.OnesCount8(c))%2 == 1
}
