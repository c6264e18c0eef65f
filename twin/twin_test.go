package twin

import (
	"math"
	"testing"

	"flintstore/api"
)

type slots = [2]api.Slot

// maxCount is the largest count that a slot may have.
const maxCount = 1 << 40

// whole returns a slot whose writing was not broken off.
func whole(count, data int) api.Slot {
	return api.Slot{Whole: true, Count: count, Data: data}
}

// torn returns a slot that is not whole, but has a count and data.
func torn(count, data int) api.Slot {
	return api.Slot{Count: count, Data: data}
}

func plainRight(s slots) bool {
	for _, x := range s {
		if x.Count < 0 || x.Count > maxCount {
			return false
		}
	}
	return !(s[0].Whole && s[1].Whole && s[0].Count == s[1].Count)
}

// plainCurrent looks for the whole slot that has the largest count; found is
// false if no slot is whole.
func plainCurrent(s slots) (at int, found bool) {
	most := -1
	for k, x := range s {
		if x.Whole && x.Count > most {
			at, found, most = k, true, x.Count
		}
	}
	return at, found
}

func plainRead(s slots) (int, api.Errno) {
	if !plainRight(s) {
		return 0, api.ErrForm
	}
	at, found := plainCurrent(s)
	if !found {
		return 0, api.ErrNone
	}
	return s[at].Data, api.OK
}

func plainWrite(s slots, data int, broken bool) (slots, api.Errno) {
	if !plainRight(s) {
		return slots{}, api.ErrForm
	}
	at, found := plainCurrent(s)
	next := whole(1, data)
	if found {
		next.Count = s[at].Count + 1
	}
	if next.Count > maxCount {
		return slots{}, api.ErrFull
	}
	if broken {
		next = torn(0, 0)
	}
	if found && at == 0 {
		return slots{s[0], next}, api.OK
	}
	return slots{next, s[1]}, api.OK
}

func wantRight(t *testing.T, s slots, want bool) {
	t.Helper()
	if got := Right(s); got != want {
		t.Errorf("Right(%v) is %t", s, got)
	}
}

func wantRead(t *testing.T, s slots, want int, wantErr api.Errno) {
	t.Helper()
	if got, err := Read(s); got != want || err != wantErr {
		t.Errorf("Read(%v) is %d and %d, not %d and %d", s, got, err, want, wantErr)
	}
}

func wantWrite(t *testing.T, s slots, data int, broken bool, want slots, wantErr api.Errno) {
	t.Helper()
	if got, err := Write(s, data, broken); got != want || err != wantErr {
		t.Errorf("Write(%v, %d, %t) is %v and %d, not %v and %d", s, data, broken, got, err, want, wantErr)
	}
}

// wantPlain checks all functions against the chapter.
func wantPlain(t *testing.T, s slots) {
	t.Helper()
	wantRight(t, s, plainRight(s))
	data, err := plainRead(s)
	wantRead(t, s, data, err)
	for _, data := range []int{0, 77, -1, math.MinInt, math.MaxInt} {
		for _, broken := range []bool{false, true} {
			want, err := plainWrite(s, data, broken)
			wantWrite(t, s, data, broken, want, err)
		}
	}
}

// wantInvalid checks that s is not valid, and that nothing comes of it.
func wantInvalid(t *testing.T, s slots) {
	t.Helper()
	wantRight(t, s, false)
	wantRead(t, s, 0, api.ErrForm)
	wantWrite(t, s, 77, false, slots{}, api.ErrForm)
	wantWrite(t, s, 77, true, slots{}, api.ErrForm)
}

func TestRightKnownSlots(t *testing.T) {
	wantRight(t, slots{}, true)
	wantRight(t, slots{whole(3, 5)}, true)
	wantRight(t, slots{{}, whole(3, 5)}, true)
	wantRight(t, slots{whole(3, 5), whole(4, 5)}, true)
	wantRight(t, slots{whole(4, 5), whole(3, 5)}, true)
	wantRight(t, slots{whole(0, 5), whole(maxCount, 5)}, true)
	wantRight(t, slots{torn(maxCount, 5), torn(0, 5)}, true)
}

// Counts may be the same unless both slots are whole.
func TestRightSameCounts(t *testing.T) {
	for _, n := range []int{0, 1, 4, maxCount - 1, maxCount} {
		wantRight(t, slots{torn(n, 1), torn(n, 2)}, true)
		wantRight(t, slots{whole(n, 1), torn(n, 2)}, true)
		wantRight(t, slots{torn(n, 1), whole(n, 2)}, true)
		wantInvalid(t, slots{whole(n, 1), whole(n, 2)})
		wantInvalid(t, slots{whole(n, 1), whole(n, 1)})
	}
}

// Even the count of a slot that is not whole must be within the limits.
func TestWrongCounts(t *testing.T) {
	for _, n := range []int{-1, -2, maxCount + 1, maxCount + 2, -maxCount, 2 * maxCount, math.MinInt, math.MaxInt} {
		for _, wrong := range []api.Slot{whole(n, 1), torn(n, 1)} {
			for _, other := range []api.Slot{{}, whole(0, 2), whole(5, 2), whole(maxCount, 2), torn(5, 2), wrong} {
				wantInvalid(t, slots{wrong, other})
				wantInvalid(t, slots{other, wrong})
			}
		}
	}
}

func TestReadKnownSlots(t *testing.T) {
	wantRead(t, slots{}, 0, api.ErrNone)
	wantRead(t, slots{torn(4, 5), torn(3, 6)}, 0, api.ErrNone)
	wantRead(t, slots{whole(0, 5)}, 5, api.OK)
	wantRead(t, slots{{}, whole(0, 6)}, 6, api.OK)
	wantRead(t, slots{whole(3, 5), whole(4, 6)}, 6, api.OK)
	wantRead(t, slots{whole(9, 5), whole(4, 6)}, 5, api.OK)
	wantRead(t, slots{whole(0, 5), whole(1, 6)}, 6, api.OK)
	wantRead(t, slots{whole(maxCount, 5), whole(maxCount-1, 6)}, 5, api.OK)
	// A slot that is not whole isn't read, however large its count is.
	wantRead(t, slots{whole(3, 5), torn(4, 6)}, 5, api.OK)
	wantRead(t, slots{torn(maxCount, 5), whole(0, 6)}, 6, api.OK)
	// Data may be anything.
	wantRead(t, slots{whole(3, math.MinInt), whole(2, 6)}, math.MinInt, api.OK)
	wantRead(t, slots{whole(3, 5), whole(4, math.MaxInt)}, math.MaxInt, api.OK)
	wantRead(t, slots{whole(3, 0), whole(2, 6)}, 0, api.OK)
}

func TestWriteKnownSlots(t *testing.T) {
	wantWrite(t, slots{}, 77, false, slots{whole(1, 77)}, api.OK)
	wantWrite(t, slots{whole(3, 5)}, 77, false, slots{whole(3, 5), whole(4, 77)}, api.OK)
	wantWrite(t, slots{{}, whole(3, 5)}, 77, false, slots{whole(4, 77), whole(3, 5)}, api.OK)
	wantWrite(t, slots{whole(3, 5), whole(4, 6)}, 77, false, slots{whole(5, 77), whole(4, 6)}, api.OK)
	wantWrite(t, slots{whole(9, 5), whole(4, 6)}, 77, false, slots{whole(9, 5), whole(10, 77)}, api.OK)
	wantWrite(t, slots{whole(0, 5), torn(8, 6)}, 77, false, slots{whole(0, 5), whole(1, 77)}, api.OK)
	// Without a whole slot the first one is written, whatever the counts are.
	wantWrite(t, slots{torn(4, 5), torn(9, 6)}, 77, false, slots{whole(1, 77), torn(9, 6)}, api.OK)
	wantWrite(t, slots{torn(9, 5), torn(4, 6)}, 77, false, slots{whole(1, 77), torn(4, 6)}, api.OK)
}

// A write that is broken off leaves nothing in its slot, and the other one as
// it was.
func TestBrokenWrites(t *testing.T) {
	wantWrite(t, slots{}, 77, true, slots{}, api.OK)
	wantWrite(t, slots{whole(3, 5)}, 77, true, slots{whole(3, 5)}, api.OK)
	wantWrite(t, slots{{}, whole(3, 5)}, 77, true, slots{{}, whole(3, 5)}, api.OK)
	wantWrite(t, slots{whole(3, 5), whole(4, 6)}, 77, true, slots{{}, whole(4, 6)}, api.OK)
	wantWrite(t, slots{whole(9, 5), whole(4, 6)}, 77, true, slots{whole(9, 5)}, api.OK)
	wantWrite(t, slots{whole(3, 5), torn(4, 6)}, 77, true, slots{whole(3, 5)}, api.OK)
	wantWrite(t, slots{torn(4, 5), torn(9, 6)}, 77, true, slots{{}, torn(9, 6)}, api.OK)
}

// Only the count of the current slot can be too large to go on.
func TestWriteAtTheLastCount(t *testing.T) {
	for _, broken := range []bool{false, true} {
		for _, other := range []api.Slot{{}, torn(maxCount, 6), whole(0, 6), whole(maxCount-1, 6)} {
			wantWrite(t, slots{whole(maxCount, 5), other}, 77, broken, slots{}, api.ErrFull)
			wantWrite(t, slots{other, whole(maxCount, 5)}, 77, broken, slots{}, api.ErrFull)
		}
		wantWrite(t, slots{whole(maxCount, 5), whole(maxCount, 6)}, 77, broken, slots{}, api.ErrForm)
		wantWrite(t, slots{whole(maxCount, 5), torn(-1, 6)}, 77, broken, slots{}, api.ErrForm)
	}
	last := whole(maxCount, 77)
	wantWrite(t, slots{whole(maxCount-1, 5)}, 77, false, slots{whole(maxCount-1, 5), last}, api.OK)
	wantWrite(t, slots{torn(maxCount, 5), whole(maxCount-1, 6)}, 77, false, slots{last, whole(maxCount-1, 6)}, api.OK)
	wantWrite(t, slots{torn(maxCount, 5), torn(maxCount, 6)}, 77, false, slots{whole(1, 77), torn(maxCount, 6)}, api.OK)
	wantWrite(t, slots{whole(2, 5), torn(maxCount, 6)}, 77, false, slots{whole(2, 5), whole(3, 77)}, api.OK)
}

// All pairs of slots whose counts may matter.
func TestAllPairs(t *testing.T) {
	var all []api.Slot
	for _, n := range []int{math.MinInt, -2, -1, 0, 1, 2, 3, 1 << 32, maxCount - 2, maxCount - 1, maxCount, maxCount + 1, math.MaxInt} {
		for _, data := range []int{0, 1, -5, math.MinInt, math.MaxInt} {
			all = append(all, whole(n, data), torn(n, data))
		}
	}
	for _, a := range all {
		for _, b := range all {
			wantPlain(t, slots{a, b})
		}
	}
}

// After a write the new value is there; after one that was broken off, the old
// one.
func TestOldOrNew(t *testing.T) {
	starts := []slots{{}, {torn(7, 1), torn(8, 2)}, {whole(5, 1), whole(2, 2)}, {torn(9, 1), whole(4, 2)}}
	for _, start := range starts {
		for pattern := range 1 << 10 {
			s := start
			data, err := plainRead(s)
			for k := range 10 {
				broken := pattern>>k&1 == 1
				after, failed := Write(s, 100+k, broken)
				if failed != api.OK {
					t.Fatalf("Write(%v, %d, %t) fails with %d", s, 100+k, broken, failed)
				}
				if !broken {
					data, err = 100+k, api.OK
				}
				wantRight(t, after, true)
				wantRead(t, after, data, err)
				s = after
			}
		}
	}
}

// Writes that are not broken off take the slots in turn.
func TestSlotsInTurn(t *testing.T) {
	var s slots
	for k := range 1000 {
		before := s
		var err api.Errno
		if s, err = Write(s, k*k, false); err != api.OK {
			t.Fatalf("write %d fails with %d", k, err)
		}
		if at := k % 2; s[at] != whole(k+1, k*k) || s[1-at] != before[1-at] {
			t.Fatalf("write %d makes %v of %v", k, s, before)
		}
	}
}

func TestArgumentsStayAsTheyAre(t *testing.T) {
	for _, s := range []slots{{}, {whole(3, 5), whole(4, 6)}, {whole(maxCount, 5)}, {whole(1, 1), whole(1, 2)}} {
		before := s
		Right(s)
		Read(s)
		Write(s, 77, false)
		Write(s, 77, true)
		if s != before {
			t.Errorf("%v was changed to %v", before, s)
		}
	}
}
