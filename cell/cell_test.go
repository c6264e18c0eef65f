package cell

import (
	"bytes"
	"slices"
	"testing"

	"flintstore/api"
)

// bit returns bit i of byte k of b.
func bit(b []byte, k, i int) int {
	return int(b[k]) >> i % 2
}

// plainMay is the chapter's definition, bit by bit, so that the tests do not
// share the program's rule.
func plainMay(old, next []byte) bool {
	if len(old) != len(next) {
		return false
	}
	for k := range old {
		for i := range 8 {
			if bit(old, k, i) == 0 && bit(next, k, i) == 1 {
				return false
			}
		}
	}
	return true
}

// plainError is the error of Write and Torn.
func plainError(old, next []byte) api.Errno {
	switch {
	case len(old) != len(next):
		return api.ErrForm
	case !plainMay(old, next):
		return api.ErrHeld
	}
	return api.OK
}

// plainWrite is the chapter's definition of Write.
func plainWrite(old, next []byte) ([]byte, api.Errno) {
	if err := plainError(old, next); err != api.OK {
		return nil, err
	}
	return bytes.Clone(next), api.OK
}

// plainForce is the chapter's definition of Force, bit by bit.
func plainForce(old, next []byte) ([]byte, api.Errno) {
	if len(old) != len(next) {
		return nil, api.ErrForm
	}
	l := make([]byte, len(old))
	for k := range old {
		for i := range 8 {
			if bit(old, k, i) == 1 && bit(next, k, i) == 1 {
				l[k] += 1 << i
			}
		}
	}
	return l, api.OK
}

// plainTorn is the chapter's definition of Torn, bit by bit.
func plainTorn(old, next []byte, row []bool) ([]byte, api.Errno) {
	if err := plainError(old, next); err != api.OK {
		return nil, err
	}
	l := make([]byte, len(old))
	for k := range old {
		for i := range 8 {
			from := old
			if 8*k+i < len(row) && row[8*k+i] {
				from = next
			}
			l[k] += byte(bit(from, k, i) << i)
		}
	}
	return l, api.OK
}

// noise returns n bytes without a pattern, other ones for each seed.
func noise(n, seed int) []byte {
	b := make([]byte, n)
	x := uint64(n)*1000 + uint64(seed)
	for i := range b {
		x = x*6364136223846793005 + 1442695040888963407
		b[i] = byte(x >> 56)
	}
	return b
}

// fallen returns b with some of its bits cleared.
func fallen(b []byte) []byte {
	l := noise(len(b), 7)
	for k := range l {
		l[k] &= b[k]
	}
	return l
}

// rowOf returns a row of n elements without a pattern.
func rowOf(n int) []bool {
	row := make([]bool, n)
	for i, x := range noise(n, 3) {
		row[i] = x >= 128
	}
	return row
}

// pair of what lies there and what is to be written.
type pair struct{ old, next []byte }

// pairs returns ordinary bytes, edge cases and such as cannot be written.
func pairs() []pair {
	l := []pair{
		{nil, nil}, {nil, []byte{}}, {[]byte{}, nil}, {[]byte{}, []byte{}},
		{nil, []byte{0}}, {[]byte{0}, nil}, {nil, []byte{255}}, {[]byte{255}, nil},
		{[]byte{255}, []byte{165}}, {[]byte{165}, []byte{255}}, {[]byte{165}, []byte{165}},
		{[]byte{255, 255}, []byte{255}}, {[]byte{255}, []byte{255, 255}},
		{[]byte{0, 0}, []byte{255}}, {[]byte{0}, []byte{255, 255}}, // both errors
		{[]byte{255, 255}, []byte{1, 2}}, {[]byte{254, 255}, []byte{1, 0}}, {[]byte{255, 254}, []byte{0, 1}},
		{[]byte{0, 255, 0}, []byte{0, 0, 0}}, {[]byte{0, 255, 0}, []byte{0, 255, 1}},
	}
	for _, n := range []int{2, 3, 9, 40, api.MaxText, api.MaxText + 1} {
		b := noise(n, 1)
		l = append(l,
			pair{b, b}, pair{b, fallen(b)}, pair{fallen(b), b}, pair{b, noise(n, 2)},
			pair{bytes.Repeat([]byte{255}, n), b}, pair{b, make([]byte, n)}, pair{make([]byte, n), b},
			pair{b, b[1:]}, pair{b[1:], b}, pair{b, fallen(b)[:n-1]})
	}
	return l
}

// rows returns rows for n bytes: empty, shorter, just as long and longer.
func rows(n int) [][]bool {
	l := [][]bool{nil, {}, {true}, {false}, rowOf(8 * n), rowOf(8*n + 1), rowOf(8*n + 100)}
	for _, m := range []int{1, 3, 7, 8, 9, 8*n - 9, 8*n - 8, 8*n - 1} {
		if 0 <= m && m < 8*n {
			l = append(l, rowOf(m), slices.Repeat([]bool{true}, m))
		}
	}
	for _, m := range []int{8 * n, 8*n + 1, 8*n + 8} {
		l = append(l, slices.Repeat([]bool{true}, m), make([]bool, m))
	}
	return l
}

// wantBytes checks what a call returned.
func wantBytes(t *testing.T, call string, got []byte, err api.Errno, want []byte, wantErr api.Errno) {
	t.Helper()
	if err != wantErr || !bytes.Equal(got, want) {
		if len(got)+len(want) > 40 {
			t.Errorf("%s is %d bytes and %d, not the right %d bytes and %d", call, len(got), err, len(want), wantErr)
			return
		}
		t.Errorf("%s is %v and %d, not %v and %d", call, got, err, want, wantErr)
	}
}

func TestBlankIsErased(t *testing.T) {
	for _, n := range []int{0, 1, 2, 3, 100, api.MaxText - 1, api.MaxText} {
		want := make([]byte, n)
		for k := range want {
			want[k] = 255
		}
		got, err := Blank(n)
		wantBytes(t, "Blank", got, err, want, api.OK)
	}
}

func TestBlankRejectsOtherNumbers(t *testing.T) {
	for _, n := range []int{-1, -2, -1 << 31, -1 << 63, api.MaxText + 1, 2 * api.MaxText, 1 << 31, 1 << 62, 1<<63 - 1} {
		got, err := Blank(n)
		wantBytes(t, "Blank", got, err, nil, api.ErrRange)
	}
}

func TestBlankIsNewMemory(t *testing.T) {
	a, _ := Blank(4)
	clear(a)
	b, err := Blank(4)
	wantBytes(t, "Blank(4)", b, err, []byte{255, 255, 255, 255}, api.OK)
}

// All pairs of a byte.
func TestMayOfOneByte(t *testing.T) {
	for x := range 256 {
		for y := range 256 {
			old, next := []byte{byte(x)}, []byte{byte(y)}
			if got, want := May(old, next), plainMay(old, next); got != want {
				t.Errorf("May(%d, %d) is %v", x, y, got)
			}
		}
	}
}

func TestMay(t *testing.T) {
	for _, p := range pairs() {
		if got, want := May(p.old, p.next), plainMay(p.old, p.next); got != want {
			t.Errorf("May of %d and %d bytes is %v", len(p.old), len(p.next), got)
		}
	}
}

func TestMayOfOtherLengths(t *testing.T) {
	for n := range 20 {
		for m := range 20 {
			if got := May(bytes.Repeat([]byte{255}, n), make([]byte, m)); got != (n == m) {
				t.Errorf("May of %d erased bytes and %d bytes is %v", n, m, got)
			}
		}
	}
}

// One bit that would have to rise is enough, wherever it is.
func TestMaySeesEachBit(t *testing.T) {
	for _, n := range []int{1, 2, 9, 70} {
		for k := range 8 * n {
			old := bytes.Repeat([]byte{255}, n)
			old[k/8] &^= 1 << (k % 8)
			next := bytes.Repeat([]byte{255}, n)
			if May(old, next) {
				t.Errorf("bit %d of %d bytes may rise", k, n)
			}
			if _, err := Write(old, next); err != api.ErrHeld {
				t.Errorf("bit %d of %d bytes rises: %d", k, n, err)
			}
			if _, err := Torn(old, next, nil); err != api.ErrHeld {
				t.Errorf("bit %d of %d bytes rises when torn: %d", k, n, err)
			}
			if !May(next, old) {
				t.Errorf("bit %d of %d bytes may not fall", k, n)
			}
		}
	}
}

// The chapter's example: from 255 the byte 165 can be written, and then not
// 255.
func TestWriteExample(t *testing.T) {
	blank, _ := Blank(1)
	got, err := Write(blank, []byte{165})
	wantBytes(t, "Write(255, 165)", got, err, []byte{165}, api.OK)
	got, err = Write(got, []byte{255})
	wantBytes(t, "Write(165, 255)", got, err, nil, api.ErrHeld)
}

func TestWrite(t *testing.T) {
	for _, p := range pairs() {
		want, wantErr := plainWrite(p.old, p.next)
		got, err := Write(p.old, p.next)
		wantBytes(t, "Write", got, err, want, wantErr)
	}
}

// The lengths are checked first.
func TestBothErrors(t *testing.T) {
	for _, p := range []pair{
		{[]byte{0}, []byte{255, 255}},
		{[]byte{0, 0}, []byte{255}},
		{[]byte{0, 0}, []byte{1}},
		{make([]byte, 100), bytes.Repeat([]byte{255}, 99)},
	} {
		got, err := Write(p.old, p.next)
		wantBytes(t, "Write", got, err, nil, api.ErrForm)
		got, err = Torn(p.old, p.next, rowOf(9))
		wantBytes(t, "Torn", got, err, nil, api.ErrForm)
		got, err = Force(p.old, p.next)
		wantBytes(t, "Force", got, err, nil, api.ErrForm)
	}
}

// Only Blank limits the number of bytes.
func TestManyBytes(t *testing.T) {
	for _, n := range []int{api.MaxText + 1, 2 * api.MaxText, 1 << 16} {
		old, next := noise(n, 1), fallen(noise(n, 1))
		if !May(old, next) {
			t.Errorf("May of %d bytes is false", n)
		}
		got, err := Write(old, next)
		wantBytes(t, "Write", got, err, next, api.OK)
		got, err = Force(old, next)
		wantBytes(t, "Force", got, err, next, api.OK)
		want, _ := plainTorn(old, next, rowOf(8*n))
		got, err = Torn(old, next, rowOf(8*n))
		wantBytes(t, "Torn", got, err, want, api.OK)
	}
}

func TestForceKnownBytes(t *testing.T) {
	for _, x := range []struct{ old, next, want []byte }{
		{nil, nil, nil},
		{[]byte{255}, []byte{165}, []byte{165}},
		{[]byte{165}, []byte{255}, []byte{165}}, // bits that would have to rise stay 0
		{[]byte{0}, []byte{255}, []byte{0}},
		{[]byte{12}, []byte{10}, []byte{8}},
		{[]byte{1, 2, 3}, []byte{3, 2, 1}, []byte{1, 2, 1}},
	} {
		got, err := Force(x.old, x.next)
		wantBytes(t, "Force", got, err, x.want, api.OK)
	}
}

func TestForce(t *testing.T) {
	for _, p := range pairs() {
		want, wantErr := plainForce(p.old, p.next)
		got, err := Force(p.old, p.next)
		wantBytes(t, "Force", got, err, want, wantErr)
	}
	for x := range 256 {
		for y := range 256 {
			old, next := []byte{byte(x)}, []byte{byte(y)}
			want, wantErr := plainForce(old, next)
			got, err := Force(old, next)
			wantBytes(t, "Force", got, err, want, wantErr)
		}
	}
}

func TestTornKnownBytes(t *testing.T) {
	for _, x := range []struct {
		old, next []byte
		row       []bool
		want      []byte
	}{
		{nil, nil, nil, nil},
		{nil, nil, []bool{true, true}, nil},
		{[]byte{255}, []byte{0}, nil, []byte{255}},
		{[]byte{255}, []byte{0}, []bool{true}, []byte{254}}, // bit 0 is the least significant one
		{[]byte{255}, []byte{0}, []bool{false, true}, []byte{253}},
		{[]byte{255}, []byte{0}, []bool{false, false, false, false, false, false, false, true}, []byte{127}},
		{[]byte{255}, []byte{0}, []bool{7: false, 8: true}, []byte{255}}, // beyond the only byte
		{[]byte{255, 255}, []byte{0, 0}, []bool{8: true}, []byte{255, 254}},
		{[]byte{255, 255}, []byte{0, 0}, []bool{15: true}, []byte{255, 127}},
		{[]byte{255, 255}, []byte{0, 0}, []bool{true, true, true, true, true, true, true, true}, []byte{0, 255}},
		{[]byte{255, 255}, []byte{165, 15}, []bool{true, false, true, true, false, false, true, true, true, false, true}, []byte{183, 255}},
	} {
		got, err := Torn(x.old, x.next, x.row)
		wantBytes(t, "Torn", got, err, x.want, api.OK)
	}
}

func TestTorn(t *testing.T) {
	for _, p := range pairs() {
		for _, row := range rows(max(len(p.old), len(p.next))) {
			want, wantErr := plainTorn(p.old, p.next, row)
			got, err := Torn(p.old, p.next, row)
			wantBytes(t, "Torn", got, err, want, wantErr)
		}
	}
}

// Each element of a row is about one bit and no other.
func TestTornBits(t *testing.T) {
	for at := range 48 {
		row := make([]bool, at+1)
		row[at] = true
		want := bytes.Repeat([]byte{255}, 4)
		if at < 32 {
			want[at/8] -= 1 << (at % 8)
		}
		got, err := Torn(bytes.Repeat([]byte{255}, 4), make([]byte, 4), row)
		wantBytes(t, "Torn", got, err, want, api.OK)
	}
}

// A torn write that is written again is whole.
func TestTornCanBeWrittenAgain(t *testing.T) {
	old, next := noise(60, 1), fallen(noise(60, 1))
	for _, row := range rows(60) {
		torn, _ := Torn(old, next, row)
		got, err := Write(torn, next)
		wantBytes(t, "Write", got, err, next, api.OK)
	}
}

// within returns l as a slice with spare capacity, and the memory around it.
func within[E any](l []E, spare E) ([]E, []E) {
	around := slices.Concat([]E{spare, spare}, l, slices.Repeat([]E{spare}, 16))
	return around[2 : 2+len(l)], around
}

func TestArgumentsStayAsTheyAre(t *testing.T) {
	for _, p := range pairs() {
		row := rowOf(8*len(p.old) - min(3, 8*len(p.old)))
		old, a := within(p.old, 255)
		next, b := within(p.next, 77)
		part, c := within(row, true)
		wantA, wantB, wantC := bytes.Clone(a), bytes.Clone(b), slices.Clone(c)
		if got, want := May(old, next), plainMay(p.old, p.next); got != want {
			t.Errorf("May with spare capacity is %v", got)
		}
		want, wantErr := plainWrite(p.old, p.next)
		got, err := Write(old, next)
		wantBytes(t, "Write with spare capacity", got, err, want, wantErr)
		want, wantErr = plainForce(p.old, p.next)
		got, err = Force(old, next)
		wantBytes(t, "Force with spare capacity", got, err, want, wantErr)
		want, wantErr = plainTorn(p.old, p.next, row)
		got, err = Torn(old, next, part)
		wantBytes(t, "Torn with spare capacity", got, err, want, wantErr)
		if !bytes.Equal(a, wantA) || !bytes.Equal(b, wantB) || !slices.Equal(c, wantC) {
			t.Errorf("an argument of %d and %d bytes is changed", len(p.old), len(p.next))
		}
	}
}

func TestResultsAreNewMemory(t *testing.T) {
	old, next := noise(20, 1), fallen(noise(20, 1))
	for _, call := range []struct {
		name string
		do   func(old, next []byte) ([]byte, api.Errno)
	}{
		{"Write", Write},
		{"Force", Force},
		{"Torn with nothing written", func(old, next []byte) ([]byte, api.Errno) { return Torn(old, next, nil) }},
		{"Torn with all written", func(old, next []byte) ([]byte, api.Errno) {
			return Torn(old, next, slices.Repeat([]bool{true}, 160))
		}},
	} {
		a, b := bytes.Clone(old), bytes.Clone(next)
		got, err := call.do(a, b)
		want := bytes.Clone(got)
		clear(a)
		clear(b)
		if err != api.OK || !bytes.Equal(got, want) {
			t.Errorf("what %s returned changes with its arguments", call.name)
		}
	}
}
