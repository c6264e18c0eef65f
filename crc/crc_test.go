package crc

import (
	"bytes"
	"testing"

	"flintstore/api"
)

// plainSum is the remainder of a long division by x^16 + x^12 + x^5 + 1, bit
// by bit, so that the tests do not share the program's rule.
func plainSum(s uint16, b []byte) uint16 {
	n := 8 * len(b)
	row := make([]byte, n+16)
	for i := range n {
		row[i] = b[i/8] >> (7 - i%8) & 1
	}
	for i := range 16 {
		row[i] ^= byte(s >> (15 - i) & 1)
	}
	for i := range n {
		if row[i] == 1 {
			row[i] = 0
			row[i+4] ^= 1
			row[i+11] ^= 1
			row[i+16] ^= 1
		}
	}
	rest := uint16(0)
	for _, x := range row[n:] {
		rest = rest<<1 | uint16(x)
	}
	return rest
}

// plainSeal is the chapter's definition, for any number of bytes.
func plainSeal(b []byte) []byte {
	sum := plainSum(0xffff, b)
	return append(bytes.Clone(b), byte(sum/256), byte(sum%256))
}

// noise returns n bytes without a pattern.
func noise(n int) []byte {
	b := make([]byte, n)
	x := uint64(n + 1)
	for i := range b {
		x = x*6364136223846793005 + 1442695040888963407
		b[i] = byte(x >> 56)
	}
	return b
}

// texts returns ordinary data and edge cases, all short enough to be sealed.
func texts() [][]byte {
	l := [][]byte{
		nil,
		{},
		[]byte("123456789"),
		make([]byte, api.MaxText),
		bytes.Repeat([]byte{255}, api.MaxText),
		noise(api.MaxText - 1),
		noise(api.MaxText),
	}
	for x := range 256 {
		l = append(l, []byte{byte(x)})
	}
	for n := 2; n < 40; n++ {
		l = append(l, make([]byte, n), bytes.Repeat([]byte{255}, n), noise(n))
	}
	return l
}

// starts returns checksums to continue: each bit alone, and some others.
func starts() []uint16 {
	l := []uint16{0, 0xffff, 0x1021, 0x1234, 0x7fff}
	for k := range 16 {
		l = append(l, 1<<k)
	}
	return l
}

// wantSealed checks that b is sealed as want, and that want opens as b.
func wantSealed(t *testing.T, b, want []byte) {
	t.Helper()
	if got, err := Seal(b); err != api.OK || !bytes.Equal(got, want) {
		t.Errorf("Seal of %d bytes is %d bytes and %d, not %d bytes ending in %v", len(b), len(got), err, len(want), want[len(want)-2:])
	}
	if got, err := Open(want); err != api.OK || !bytes.Equal(got, b) {
		t.Errorf("Open of %d bytes is %d bytes and %d, not %d bytes", len(want), len(got), err, len(b))
	}
}

// wantOpenError checks that b does not open, and that nothing comes of it.
func wantOpenError(t *testing.T, b []byte, want api.Errno) {
	t.Helper()
	if got, err := Open(b); err != want || len(got) != 0 {
		t.Errorf("Open of %d bytes is %d bytes and %d, not 0 bytes and %d", len(b), len(got), err, want)
	}
}

func TestSumOfKnownBytes(t *testing.T) {
	for _, x := range []struct {
		s    uint16
		b    string
		want uint16
	}{
		{0xffff, "123456789", 0x29b1}, // the chapter's example
		{0, "123456789", 0x31c3},
		{0, "", 0},
		{0xffff, "", 0xffff},
		{0x1234, "", 0x1234},
		{0, "\x00", 0},
		{0, "\x01", 0x1021}, // the last bit shifted out is the only 1
		{0, "\x80", 0x9188}, // the first one is
		{0x0100, "\x00", 0x1021},
		{0x0100, "\x01", 0}, // the byte meets the upper eight bits
		{0x0001, "\x00", 0x0100},
		{0xffff, "\x00", 0xe1f0},
		{0xffff, "\x01", 0xf1d1},
		{0xffff, "\xff\xff", 0}, // a checksum continued with itself
	} {
		if got := Sum(x.s, []byte(x.b)); got != x.want {
			t.Errorf("Sum(%#x, %q) is %#x, not %#x", x.s, x.b, got, x.want)
		}
	}
}

func TestSumIsRemainder(t *testing.T) {
	for _, b := range texts() {
		for _, s := range starts() {
			if got, want := Sum(s, b), plainSum(s, b); got != want {
				t.Fatalf("Sum of %#x and %d bytes is %#x, not %#x", s, len(b), got, want)
			}
		}
	}
}

func TestSumOfNilIsSumOfNoBytes(t *testing.T) {
	for _, s := range starts() {
		if a, b := Sum(s, nil), Sum(s, []byte{}); a != s || b != s {
			t.Errorf("Sum of %#x and no bytes is %#x and %#x", s, a, b)
		}
	}
}

func TestSumContinues(t *testing.T) {
	b := noise(60)
	for _, s := range starts() {
		for k := range len(b) + 1 {
			if got, want := Sum(Sum(s, b[:k]), b[k:]), Sum(s, b); got != want {
				t.Fatalf("Sum of %#x continued after %d bytes is %#x, not %#x", s, k, got, want)
			}
		}
	}
}

// Only Seal and Open limit the number of bytes.
func TestSumOfManyBytes(t *testing.T) {
	for _, n := range []int{api.MaxText + 1, api.MaxText + 2, 3 * api.MaxText, 1 << 16} {
		b := noise(n)
		if got, want := Sum(0xffff, b), plainSum(0xffff, b); got != want {
			t.Errorf("Sum of %d bytes is %#x, not %#x", n, got, want)
		}
	}
}

func TestSealAndOpenKnownBytes(t *testing.T) {
	wantSealed(t, nil, []byte{0xff, 0xff})
	wantSealed(t, []byte{}, []byte{0xff, 0xff})
	wantSealed(t, []byte{0}, []byte{0, 0xe1, 0xf0})
	wantSealed(t, []byte("123456789"), []byte("123456789\x29\xb1"))
}

func TestSealAndOpenAreInverse(t *testing.T) {
	for _, b := range texts() {
		wantSealed(t, b, plainSeal(b))
	}
}

func TestSealRejectsTooManyBytes(t *testing.T) {
	for _, n := range []int{api.MaxText + 1, api.MaxText + 2, api.MaxText + 3, 2 * api.MaxText, 1 << 16} {
		if got, err := Seal(noise(n)); err != api.ErrRange || len(got) != 0 {
			t.Errorf("Seal of %d bytes is %d bytes and %d, not 0 bytes and %d", n, len(got), err, api.ErrRange)
		}
	}
}

// The number of bytes is checked first: these have no checksum that could be
// right.
func TestOpenRejectsFewerThanTwoBytes(t *testing.T) {
	wantOpenError(t, nil, api.ErrRange)
	wantOpenError(t, []byte{}, api.ErrRange)
	for x := range 256 {
		wantOpenError(t, []byte{byte(x)}, api.ErrRange)
	}
}

// The number of bytes is checked first, whether the checksum is right or not.
func TestOpenRejectsTooManyBytes(t *testing.T) {
	for _, n := range []int{api.MaxText + 1, api.MaxText + 2, 2 * api.MaxText, 1 << 16} {
		b := plainSeal(noise(n))
		wantOpenError(t, b, api.ErrRange)
		b[n] ^= 1
		wantOpenError(t, b, api.ErrRange)
	}
}

func TestOpenRejectsWrongChecksums(t *testing.T) {
	wantOpenError(t, []byte{0, 0}, api.ErrSum)          // continued from 0
	wantOpenError(t, []byte{1, 0xf1}, api.ErrSum)       // cut off
	wantOpenError(t, []byte{0, 0xf0, 0xe1}, api.ErrSum) // little-endian
	wantOpenError(t, []byte{0xe1, 0xf0, 0}, api.ErrSum) // in front
	wantOpenError(t, make([]byte, api.MaxText+2), api.ErrSum)
	for sum := range 1 << 16 {
		if sum != 0x29b1 {
			b := append([]byte("123456789"), byte(sum>>8), byte(sum))
			wantOpenError(t, b, api.ErrSum)
		}
	}
}

// Sealed data of the greatest length is checked to its last bit.
func TestOpenDetectsSingleErrors(t *testing.T) {
	for _, n := range []int{0, 1, 9, 255, api.MaxText} {
		b := plainSeal(noise(n))
		for i := 0; i < len(b); i += 1 + n/100 {
			for k := range 8 {
				b[i] ^= 1 << k
				wantOpenError(t, b, api.ErrSum)
				b[i] ^= 1 << k
			}
		}
		for i := n; i < len(b); i++ {
			b[i] ^= 128
			wantOpenError(t, b, api.ErrSum)
			b[i] ^= 128
		}
	}
}

// A burst changes bits of which the first and the last one are at most 16
// apart, counted together.
func TestOpenDetectsBursts(t *testing.T) {
	b := plainSeal([]byte("flint"))
	for at := 0; at+16 <= 8*len(b); at += 5 {
		for burst := 1; burst < 1<<16; burst += 7 {
			spoilt := bytes.Clone(b)
			for k := range 16 {
				spoilt[(at+k)/8] ^= byte(burst>>k&1) << (7 - (at+k)%8)
			}
			wantOpenError(t, spoilt, api.ErrSum)
		}
	}
}

// within returns b as a slice with spare capacity, and the memory around it.
func within(b []byte) ([]byte, []byte) {
	around := append([]byte{77, 77}, b...)
	around = append(around, 77, 77, 77, 77)
	return around[2 : 2+len(b)], around
}

func TestArgumentsStayAsTheyAre(t *testing.T) {
	for _, b := range texts() {
		arg, around := within(b)
		before := bytes.Clone(around)
		if got, want := Sum(0xffff, arg), plainSum(0xffff, b); got != want {
			t.Errorf("Sum of %d bytes with spare capacity is %#x, not %#x", len(b), got, want)
		}
		if got, err := Seal(arg); err != api.OK || !bytes.Equal(got, plainSeal(b)) {
			t.Errorf("Seal of %d bytes with spare capacity is %d bytes and %d", len(b), len(got), err)
		}
		if !bytes.Equal(around, before) {
			t.Errorf("Sum or Seal changed its argument of %d bytes", len(b))
		}
		arg, around = within(plainSeal(b))
		before = bytes.Clone(around)
		if got, err := Open(arg); err != api.OK || !bytes.Equal(got, b) {
			t.Errorf("Open of %d bytes with spare capacity is %d bytes and %d", len(arg), len(got), err)
		}
		if !bytes.Equal(around, before) {
			t.Errorf("Open changed its argument of %d bytes", len(arg))
		}
	}
}

func TestResultsAreNewMemory(t *testing.T) {
	b := noise(20)
	arg := bytes.Clone(b)
	sealed, _ := Seal(arg)
	clear(arg)
	if !bytes.Equal(sealed, plainSeal(b)) {
		t.Errorf("what Seal returned changes with its argument")
	}
	opened, _ := Open(sealed)
	clear(sealed)
	if !bytes.Equal(opened, b) {
		t.Errorf("what Open returned changes with its argument")
	}
}
