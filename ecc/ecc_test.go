package ecc

import (
	"testing"

	"flintstore/api"
)

// positions of the bits of a word, the least significant one first, written
// out so that the tests do not share the program's rule.
var positions = [64]byte{
	3, 5, 6, 7,
	9, 10, 11, 12, 13, 14, 15,
	17, 18, 19, 20, 21, 22, 23, 24, 25, 26, 27, 28, 29, 30, 31,
	33, 34, 35, 36, 37, 38, 39, 40, 41, 42, 43, 44, 45, 46, 47, 48,
	49, 50, 51, 52, 53, 54, 55, 56, 57, 58, 59, 60, 61, 62, 63,
	65, 66, 67, 68, 69, 70, 71,
}

// plainCheck is the chapter's definition, one bit at a time.
func plainCheck(d uint64) byte {
	sum, ones := byte(0), 0
	for i, p := range positions {
		if d&(1<<i) != 0 {
			sum ^= p
			ones++
		}
	}
	for k := range 7 {
		if sum&(1<<k) != 0 {
			ones++
		}
	}
	if ones%2 != 0 {
		sum |= 128
	}
	return sum
}

// flip changes bit k of the 72 bits of a word and its check bits.
func flip(d uint64, c byte, k int) (uint64, byte) {
	if k < 64 {
		return d ^ 1<<k, c
	}
	return d, c ^ 1<<(k-64)
}

type mended struct {
	d    uint64
	c    byte
	bits int
	err  api.Errno
}

func mend(d uint64, c byte) mended {
	a, b, n, e := Mend(d, c)
	return mended{a, b, n, e}
}

// plainMend is the chapter's definition: it tries every single change.
func plainMend(d uint64, c byte) mended {
	if plainCheck(d) == c {
		return mended{d, c, 0, api.OK}
	}
	for k := range 72 {
		if a, b := flip(d, c, k); plainCheck(a) == b {
			return mended{a, b, 1, api.OK}
		}
	}
	return mended{err: api.ErrSum}
}

// words returns edge cases, every word with a single 1 bit or a single 0 bit,
// and some words without a pattern.
func words() []uint64 {
	l := []uint64{0, ^uint64(0), 0xdeadbeef12345678, 0x5555555555555555, 0xaaaaaaaaaaaaaaaa}
	for i := range 64 {
		l = append(l, 1<<i, ^(uint64(1) << i))
	}
	x := uint64(1)
	for range 100 {
		x = x*6364136223846793005 + 1442695040888963407
		l = append(l, x)
	}
	return l
}

func TestCheckOfKnownWords(t *testing.T) {
	for _, x := range []struct {
		d uint64
		c byte
	}{
		{0, 0},
		{1, 131},       // position 3: three 1 bits without the last check bit
		{2, 133},       // position 5, not 4
		{3, 6},         // positions 3 and 5: four 1 bits
		{1 << 3, 7},    // position 7: four 1 bits
		{1 << 4, 137},  // position 9, not 8
		{1 << 56, 191}, // position 63, the last one below 64
		{1 << 57, 193}, // position 65, not 64
		{1 << 63, 199}, // position 71, the last one
	} {
		if c := Check(x.d); c != x.c {
			t.Errorf("Check(%#x) is %d, not %d", x.d, c, x.c)
		}
	}
}

func TestCheckFollowsPositions(t *testing.T) {
	for _, d := range words() {
		if c := Check(d); c != plainCheck(d) {
			t.Errorf("Check(%#x) is %d, not %d", d, c, plainCheck(d))
		}
	}
}

func TestMendLeavesIntactWords(t *testing.T) {
	for _, d := range words() {
		c := plainCheck(d)
		if got, want := mend(d, c), (mended{d, c, 0, api.OK}); got != want {
			t.Errorf("Mend(%#x, %d) is %v, not %v", d, c, got, want)
		}
	}
}

func TestMendCorrectsSingleErrors(t *testing.T) {
	for _, d := range words() {
		c := plainCheck(d)
		for k := range 72 {
			x, y := flip(d, c, k)
			if got, want := mend(x, y), (mended{d, c, 1, api.OK}); got != want {
				t.Fatalf("Mend(%#x, %d) is %v, not %v", x, y, got, want)
			}
		}
	}
}

func TestMendDetectsDoubleErrors(t *testing.T) {
	for _, d := range words() {
		c := plainCheck(d)
		for k := range 72 {
			for m := range k {
				x, y := flip(d, c, k)
				x, y = flip(x, y, m)
				if got, want := mend(x, y), (mended{err: api.ErrSum}); got != want {
					t.Fatalf("Mend(%#x, %d) is %v, not %v", x, y, got, want)
				}
			}
		}
	}
}

// An odd number of changes can also point to a position that no bit has.
func TestMendDetectsPositionsBeyondTheWord(t *testing.T) {
	for place := 72; place < 128; place++ {
		c := byte(place)
		ones := 0
		for k := range 7 {
			ones += place >> k & 1
		}
		if ones%2 == 0 {
			c |= 128
		}
		if got, want := mend(0, c), (mended{err: api.ErrSum}); got != want {
			t.Errorf("Mend(0, %d) is %v, not %v", c, got, want)
		}
	}
}

func TestMendWithAnyCheckBits(t *testing.T) {
	for _, d := range words() {
		for c := range 256 {
			if got, want := mend(d, byte(c)), plainMend(d, byte(c)); got != want {
				t.Fatalf("Mend(%#x, %d) is %v, not %v", d, c, got, want)
			}
		}
	}
}
