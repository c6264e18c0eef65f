package journal

import (
	"bytes"
	"fmt"
	"slices"
	"testing"

	"flintstore/api"
)

// maxLength is how many bytes a record may have.
const maxLength = 255

// plainSum is CRC-16-CCITT of b, bit by bit.
func plainSum(b []byte) int {
	sum := 0xffff
	for _, x := range b {
		for i := 7; i >= 0; i-- {
			top := sum>>15 ^ int(x)>>i&1
			sum = sum << 1 & 0xffff
			if top == 1 {
				sum ^= 0x1021
			}
		}
	}
	return sum
}

// plainWrite is the encoding of a record that is not too long.
func plainWrite(r []byte) []byte {
	b := slices.Concat([]byte{byte(len(r))}, r)
	sum := plainSum(b)
	return append(b, byte(sum/256), byte(sum%256))
}

// plainFold is the encoding of records none of which is too long.
func plainFold(l [][]byte) []byte {
	var b []byte
	for _, r := range l {
		b = append(b, plainWrite(r)...)
	}
	return b
}

// plainRead tries at each place whether what lies there is what the bytes
// behind the length would be written as.
func plainRead(b []byte) ([][]byte, int) {
	var records [][]byte
	at := 0
	for at < len(b) {
		end := at + 1 + int(b[at])
		if end > len(b) || !bytes.HasPrefix(b[at:], plainWrite(b[at+1:end])) {
			break
		}
		records = append(records, b[at+1:end])
		at = end + 2
	}
	return records, at
}

func wantWrite(t *testing.T, r, want []byte, wantErr api.Errno) {
	t.Helper()
	if got, err := Write(r); !bytes.Equal(got, want) || err != wantErr {
		t.Errorf("Write(%s) is %s and %d, not %s and %d", shortened(r), shortened(got), err, shortened(want), wantErr)
	}
}

func wantRead(t *testing.T, b []byte, want [][]byte, wantSize int) {
	t.Helper()
	if got, size := Read(b); !slices.EqualFunc(got, want, bytes.Equal) || size != wantSize {
		t.Errorf("Read(%s) is %s and %d, not %s and %d", shortened(b), shortened(got), size, shortened(want), wantSize)
	}
}

// wantPlain checks Read against the chapter.
func wantPlain(t *testing.T, b []byte) {
	t.Helper()
	want, size := plainRead(b)
	wantRead(t, b, want, size)
}

func wantFold(t *testing.T, l [][]byte, want []byte, wantErr api.Errno) {
	t.Helper()
	if got, err := Fold(l); !bytes.Equal(got, want) || err != wantErr {
		t.Errorf("Fold(%s) is %s and %d, not %s and %d", shortened(l), shortened(got), err, shortened(want), wantErr)
	}
}

// shortened tells the elements of l, or how many there are.
func shortened[T any](l []T) string {
	if len(l) > 20 {
		return fmt.Sprintf("[%d elements]", len(l))
	}
	return fmt.Sprint(l)
}

// mixed returns n bytes in no order.
func mixed(n, seed int) []byte {
	b := make([]byte, n)
	x := uint64(seed)*2862933555777941757 + uint64(n)
	for k := range b {
		x = x*6364136223846793005 + 1442695040888963407
		b[k] = byte(x >> 56)
	}
	return b
}

// someRecords returns lists of records, of all lengths that may matter.
func someRecords() [][][]byte {
	lists := [][][]byte{
		nil,
		{},
		{{}},
		{nil, {}, nil},
		{[]byte("ab")},
		{[]byte("ab"), {}},
		{{}, []byte("ab")},
		{{0}, {255, 1}, []byte("hello")},
		{{0}, {0, 0}, {0, 0, 0}},
		{{255}, {255, 255}, {255, 255, 255}},
		{mixed(255, 1)},
		{mixed(254, 1), mixed(255, 2), {}, mixed(255, 3), {3}},
		{plainWrite([]byte("in")), plainWrite(plainWrite(nil))},
	}
	for seed := range 12 {
		var l [][]byte
		for k, x := range mixed(8, seed) {
			l = append(l, mixed(int(x)%(1+8*seed), k))
		}
		lists = append(lists, l)
	}
	return lists
}

func TestWriteKnownRecords(t *testing.T) {
	wantWrite(t, nil, []byte{0, 0xe1, 0xf0}, api.OK)
	wantWrite(t, []byte{}, []byte{0, 0xe1, 0xf0}, api.OK)
	wantWrite(t, []byte("x"), []byte{1, 'x', 209, 161}, api.OK)
	if got, err := Write([]byte("ab")); len(got) != 5 || err != api.OK {
		t.Errorf("a record of two bytes is written as %v, with %d", got, err)
	}
}

func TestWriteAllLengths(t *testing.T) {
	for n := range maxLength + 1 {
		for _, r := range [][]byte{mixed(n, 7), make([]byte, n), bytes.Repeat([]byte{255}, n)} {
			wantWrite(t, r, plainWrite(r), api.OK)
		}
	}
	for _, n := range []int{256, 257, 258, 511, 512, 4095, 4096, 4097, 1 << 16, 1 << 20} {
		wantWrite(t, make([]byte, n), nil, api.ErrRange)
		wantWrite(t, mixed(n, 7), nil, api.ErrRange)
	}
}

func TestFoldLists(t *testing.T) {
	wantFold(t, nil, nil, api.OK)
	wantFold(t, [][]byte{}, nil, api.OK)
	wantFold(t, [][]byte{nil}, []byte{0, 0xe1, 0xf0}, api.OK)
	wantFold(t, [][]byte{{}, []byte("x")}, []byte{0, 0xe1, 0xf0, 1, 'x', 209, 161}, api.OK)
	wantFold(t, [][]byte{[]byte("x"), {}}, []byte{1, 'x', 209, 161, 0, 0xe1, 0xf0}, api.OK)
	for _, l := range someRecords() {
		wantFold(t, l, plainFold(l), api.OK)
	}
}

// A record that is too long leaves nothing of the others, wherever it is.
func TestFoldWrongLists(t *testing.T) {
	for _, n := range []int{256, 257, 512, 4096, 4097, 70000} {
		long := mixed(n, 1)
		for _, l := range [][][]byte{{long}, {long, {1}}, {{1}, long}, {{}, {1}, long, {2}}, {long, long}} {
			wantFold(t, l, nil, api.ErrRange)
		}
	}
}

// A journal may have many more bytes and records than other things.
func TestLongJournals(t *testing.T) {
	for _, count := range []int{15, 16, 17, 399, 400, 401, 4096, 5000} {
		for _, n := range []int{0, 1, 16, 255} {
			l := make([][]byte, count)
			for k := range l {
				l[k] = mixed(n, k)
			}
			b := plainFold(l)
			wantFold(t, l, b, api.OK)
			wantRead(t, b, l, count*(n+3))
			wantRead(t, b[:len(b)-1], l[:count-1], (count-1)*(n+3))
		}
	}
}

func TestReadKnownBytes(t *testing.T) {
	wantRead(t, nil, nil, 0)
	wantRead(t, []byte{}, nil, 0)
	wantRead(t, []byte{0, 0xe1, 0xf0}, [][]byte{{}}, 3)
	wantRead(t, []byte{1, 'x', 209, 161}, [][]byte{[]byte("x")}, 4)
	wantRead(t, []byte{0, 0xe1, 0xf0, 1, 'x', 209, 161, 0, 0xe1, 0xf0}, [][]byte{{}, []byte("x"), {}}, 10)
	// What lies behind the damage is ignored, even a record that is intact.
	wantRead(t, []byte{1, 'x', 209, 160, 0, 0xe1, 0xf0}, nil, 0)
	wantRead(t, []byte{0, 0xe1, 0xf0, 7, 0, 0xe1, 0xf0}, [][]byte{{}}, 3)
	// The checksum must be behind the record, its high byte first.
	wantRead(t, []byte{0, 0xf0, 0xe1}, nil, 0)
	wantRead(t, []byte{0, 0xe1}, nil, 0)
	wantRead(t, []byte{1, 'x'}, nil, 0)
	wantRead(t, []byte{1, 'x', 209}, nil, 0)
}

// A flash that was never written, or that has nothing but zeros, has no
// records.
func TestReadBlankBytes(t *testing.T) {
	for _, x := range []byte{0, 1, 2, 254, 255} {
		for n := range 600 {
			b := bytes.Repeat([]byte{x}, n)
			wantRead(t, b, nil, 0)
			wantRead(t, append([]byte{0, 0xe1, 0xf0}, b...), [][]byte{{}}, 3)
		}
	}
}

// A journal that breaks off anywhere is read up to there.
func TestReadTornJournals(t *testing.T) {
	for _, l := range someRecords() {
		b := plainFold(l)
		whole, end := 0, 0
		for n := range len(b) + 1 {
			if whole < len(l) && n == end+len(l[whole])+3 {
				whole, end = whole+1, n
			}
			wantRead(t, b[:n], l[:whole], end)
		}
		wantRead(t, b, l, len(b))
	}
}

// The record where the damage is ends the journal; those in front of it remain.
func TestReadSpoiltJournals(t *testing.T) {
	for _, l := range someRecords() {
		b := plainFold(l)
		whole, end := 0, 0
		for n := range b {
			if n == end+len(l[whole])+3 {
				whole, end = whole+1, n
			}
			for bit := range 8 {
				b[n] ^= 1 << bit
				wantPlain(t, b)
				// A wrong length may lead to a checksum that fits by chance;
				// other single bits can't.
				if n > end {
					wantRead(t, b, l[:whole], end)
				}
				b[n] ^= 1 << bit
			}
		}
	}
}

// What follows the last record is not counted.
func TestReadBytesBehindTheEnd(t *testing.T) {
	for _, l := range someRecords() {
		b := plainFold(l)
		for _, rest := range [][]byte{{0}, {255}, {1, 2}, {0, 0, 0, 0}, {255, 255, 255}, []byte("rubbish"), make([]byte, 300)} {
			wantRead(t, append(slices.Clone(b), rest...), l, len(b))
		}
	}
}

func TestReadMixedBytes(t *testing.T) {
	for n := range 300 {
		for seed := range 20 {
			b := mixed(n, seed)
			wantPlain(t, b)
			wantPlain(t, slices.Concat(plainWrite(mixed(seed, n)), b))
			for k := range b {
				b[k] %= 4
			}
			wantPlain(t, b)
		}
	}
}

// Every list of bytes of three values and up to eight bytes.
func TestReadSmallBytes(t *testing.T) {
	lists := [][]byte{nil}
	for i := 0; len(lists[i]) < 8; i++ {
		for _, x := range []byte{0, 0xe1, 0xf0} {
			lists = append(lists, append(slices.Clone(lists[i]), x))
		}
	}
	for _, b := range lists {
		wantPlain(t, b)
	}
}

// within returns a copy of l that has spare capacity, and the memory of both.
func within(l []byte) (part, all []byte) {
	all = append(slices.Clone(l), 0, 0xe1, 0xf0, 9)
	return all[:len(l):len(all)], all
}

func TestArgumentsStayAsTheyAre(t *testing.T) {
	for n := range 300 {
		r, all := within(mixed(n, 3))
		before := slices.Clone(all)
		Write(r)
		Read(r)
		l := append(make([][]byte, 0, 4), r, r[:n/2])
		Fold(l)
		if !bytes.Equal(all, before) {
			t.Fatalf("%d bytes were changed", n)
		}
		if len(l[0]) != n || len(l[1]) != n/2 || l[:3][2] != nil {
			t.Fatalf("a list of records of %d bytes was changed", n)
		}
	}
}

// The spare capacity behind a torn journal is not read.
func TestReadEndsWhereTheBytesEnd(t *testing.T) {
	b := plainFold([][]byte{[]byte("ab"), []byte("cd")})
	wantRead(t, b[:9:10], [][]byte{[]byte("ab")}, 5)
	wantRead(t, b[:5:10], [][]byte{[]byte("ab")}, 5)
	wantRead(t, b[:0:10], nil, 0)
}

// A caller may change arguments and results afterwards, without changing other
// results.
func TestResultsAreNewMemory(t *testing.T) {
	b := plainFold([][]byte{[]byte("ab"), []byte("cd"), []byte("ef")})
	records, _ := Read(b)
	clear(b)
	first := append(records[0], "more of it"...)
	copy(first, "AB")
	copy(records[1], "CD")
	if got := fmt.Sprintf("%s", records[2]); got != "ef" {
		t.Errorf("the third record has become %q", got)
	}
	if got := fmt.Sprintf("%s", records[1]); got != "CD" {
		t.Errorf("the second record has become %q", got)
	}

	r := []byte("ab")
	written, _ := Write(r)
	folded, _ := Fold([][]byte{r})
	copy(r, "??")
	if want := plainWrite([]byte("ab")); !bytes.Equal(written, want) || !bytes.Equal(folded, want) {
		t.Errorf("a changed record changed %v and %v", written, folded)
	}
	clear(written)
	if want := plainWrite([]byte("ab")); !bytes.Equal(folded, want) {
		t.Errorf("a changed encoding changed %v", folded)
	}
}
