package ftl

import (
	"fmt"
	"math"
	"slices"
	"testing"

	"flintstore/api"
	"flintstore/nand"
)

const (
	numbers   = 16
	blocks    = 8
	pages     = 4
	maxOps    = 400
	maxSpread = 3
)

// plainPlay keeps the data of the pages that are not empty, and no flash.
func plainPlay(ops []api.FtlOp) []api.FtlAns {
	data := map[int]int{}
	var answers []api.FtlAns
	for _, op := range ops {
		_, full := data[op.N]
		answer := api.FtlAns{}
		switch {
		case op.Kind < 1 || op.Kind > 3:
			answer.Err = api.ErrKind
		case op.N < 0 || op.N > 15:
			answer.Err = api.ErrRange
		case op.Kind == 1:
			data[op.N] = op.Data
		case !full:
			answer.Err = api.ErrNone
		case op.Kind == 2:
			answer.Data = data[op.N]
		default:
			delete(data, op.N)
		}
		answers = append(answers, answer)
	}
	return answers
}

// writesIn returns how many of the operations are writes without an error.
func writesIn(ops []api.FtlOp) int {
	count := 0
	for k, answer := range plainPlay(ops) {
		if answer.Err == api.OK && ops[k].Kind == 1 {
			count++
		}
	}
	return count
}

// wantCounts checks erase counts after so many writes.
func wantCounts(t *testing.T, counts []int, writes int) {
	t.Helper()
	if len(counts) != blocks {
		t.Fatalf("the erase counts are %v", counts)
	}
	if slices.Min(counts) < 0 || slices.Max(counts)-slices.Min(counts) > maxSpread {
		t.Errorf("after %d writes the erase counts are %v", writes, counts)
	}
	sum := 0
	for _, count := range counts {
		sum += count
	}
	// Each write takes a page, and there are no others than those that were
	// blank and those that were erased.
	if writes > (blocks+sum)*pages {
		t.Errorf("%d writes leave the erase counts %v", writes, counts)
	}
}

// wantPlay checks Play against the answers, and the erase counts against what
// the chapter demands of them.
func wantPlay(t *testing.T, ops []api.FtlOp, want []api.FtlAns) {
	t.Helper()
	answers, counts, err := Play(ops)
	if !slices.Equal(answers, want) || err != api.OK {
		t.Errorf("Play(%s) is %s and %d, not %s", shortened(ops), shortened(answers), err, shortened(want))
	}
	wantCounts(t, counts, writesIn(ops))
}

// wantPlain checks Play against the chapter.
func wantPlain(t *testing.T, ops []api.FtlOp) {
	t.Helper()
	wantPlay(t, ops, plainPlay(ops))
}

// shortened tells the elements of l, or how many there are.
func shortened[T any](l []T) string {
	if len(l) > 20 {
		return fmt.Sprintf("[%d elements]", len(l))
	}
	return fmt.Sprint(l)
}

func write(n, data int) api.FtlOp { return api.FtlOp{Kind: 1, N: n, Data: data} }
func read(n int) api.FtlOp        { return api.FtlOp{Kind: 2, N: n} }
func trim(n int) api.FtlOp        { return api.FtlOp{Kind: 3, N: n} }

// writeEach returns writes of these pages, with data that all differ.
func writeEach(list ...int) []api.FtlOp {
	var ops []api.FtlOp
	for k, n := range list {
		ops = append(ops, write(n, 1000*k+n))
	}
	return ops
}

// onEach returns one operation for each logical page.
func onEach(op func(int) api.FtlOp) []api.FtlOp {
	var ops []api.FtlOp
	for n := range numbers {
		ops = append(ops, op(n))
	}
	return ops
}

// hotOps fills all pages, and then writes count times some of them: how many
// is hot, and which ones follows from first and by.
func hotOps(count, hot, first, by int) []api.FtlOp {
	ops := onEach(func(n int) api.FtlOp { return write(n, -n) })
	for k := range count {
		ops = append(ops, write((first+k%hot*by)%numbers, k))
	}
	return append(ops, onEach(read)...)
}

// mixedOps returns count operations in no order, on the first span pages: about
// one in every is a read, one a trim, the others are writes, and some are
// invalid if wrong.
func mixedOps(count, span, every int, wrong bool) []api.FtlOp {
	x := uint64(count*span*every + 1)
	next := func(limit int) int {
		x = x*6364136223846793005 + 1442695040888963407
		return int(x >> 33 % uint64(limit))
	}
	var ops []api.FtlOp
	for range count {
		op := write(next(span), next(2000)-1000)
		switch next(every) {
		case 0:
			op.Kind = 2
		case 1:
			op.Kind = 3
		}
		if wrong && next(9) == 0 {
			op.Kind = next(7) - 2
		}
		if wrong && next(9) == 0 {
			op.N = next(22) - 3
		}
		ops = append(ops, op)
	}
	return ops
}

// longLists returns lists of operations that need most blocks many times.
func longLists() [][]api.FtlOp {
	var lists [][]api.FtlOp
	for hot := 1; hot <= numbers; hot++ {
		lists = append(lists, hotOps(360, hot, 0, 1), hotOps(360, hot, 5, 7), hotOps(360, hot, 15, 15))
	}
	for _, span := range []int{1, 2, 4, 9, 15, 16} {
		for _, every := range []int{3, 4, 6, 20, 1000} {
			lists = append(lists, mixedOps(maxOps, span, every, false), mixedOps(maxOps, span, every, true))
		}
	}
	return lists
}

// wrongNumbers returns numbers that no logical page has.
func wrongNumbers() []int {
	return []int{math.MinInt, -17, -16, -2, -1, 16, 17, 31, 32, 1 << 32, math.MaxInt}
}

// wrongKinds returns kinds that are none.
func wrongKinds() []int {
	return []int{math.MinInt, -3, -2, -1, 0, 4, 5, 1 << 32, math.MaxInt}
}

func TestKnownOps(t *testing.T) {
	none := api.FtlAns{Err: api.ErrNone}
	wantPlay(t, nil, nil)
	wantPlay(t, []api.FtlOp{}, nil)
	wantPlay(t, []api.FtlOp{write(3, 7), read(3)}, []api.FtlAns{{}, {Data: 7}})
	wantPlay(t, []api.FtlOp{write(3, 7), write(3, 8), read(3), read(3)}, []api.FtlAns{{}, {}, {Data: 8}, {Data: 8}})
	wantPlay(t, []api.FtlOp{write(3, 7), write(4, 8), read(3), read(4)}, []api.FtlAns{{}, {}, {Data: 7}, {Data: 8}})
	wantPlay(t, []api.FtlOp{read(3), trim(3), write(3, 7), trim(3), read(3), trim(3)},
		[]api.FtlAns{none, none, {}, {}, none, none})
	wantPlay(t, []api.FtlOp{write(3, 7), trim(3), write(3, 9), read(3)}, []api.FtlAns{{}, {}, {}, {Data: 9}})
	wantPlay(t, []api.FtlOp{write(3, 7), write(4, 8), trim(3), read(4), read(3)},
		[]api.FtlAns{{}, {}, {}, {Data: 8}, none})
}

// Any number can be stored, and a page that has 0 is not empty.
func TestAnyData(t *testing.T) {
	for _, x := range []int{0, 1, -1, 255, 1 << 32, math.MinInt, math.MaxInt} {
		ops := []api.FtlOp{write(6, x), read(6), trim(6), read(6)}
		wantPlay(t, ops, []api.FtlAns{{}, {Data: x}, {}, {Err: api.ErrNone}})
	}
}

// Reads and trims ignore Data.
func TestDataOfReadsAndTrims(t *testing.T) {
	ops := []api.FtlOp{write(6, 5), {Kind: 2, N: 6, Data: 9}, read(6), {Kind: 3, N: 6, Data: 9}, read(6)}
	wantPlay(t, ops, []api.FtlAns{{}, {Data: 5}, {Data: 5}, {}, {Err: api.ErrNone}})
}

// At first all pages are empty, and nothing was erased.
func TestNewDevice(t *testing.T) {
	ops := append(onEach(read), onEach(trim)...)
	wantPlay(t, ops, slices.Repeat([]api.FtlAns{{Err: api.ErrNone}}, 2*numbers))
	for _, list := range [][]api.FtlOp{nil, ops} {
		if _, counts, _ := Play(list); !slices.Equal(counts, make([]int, blocks)) {
			t.Errorf("without a write the erase counts are %v", counts)
		}
	}
}

func TestBoundsOfNumbers(t *testing.T) {
	for n := range numbers {
		wantPlay(t, []api.FtlOp{write(n, 4), read(n), trim(n)}, []api.FtlAns{{}, {Data: 4}, {}})
	}
	outside := api.FtlAns{Err: api.ErrRange}
	for _, n := range wrongNumbers() {
		wantPlay(t, []api.FtlOp{write(n, 4), read(n), trim(n)}, []api.FtlAns{outside, outside, outside})
	}
}

// The kind comes first, then the number, then whether the page is empty.
func TestOrderOfErrors(t *testing.T) {
	for _, kind := range wrongKinds() {
		for _, n := range append(wrongNumbers(), 0, 7, 15) {
			op := api.FtlOp{Kind: kind, N: n, Data: 3}
			wantPlay(t, []api.FtlOp{op, write(7, 1), op}, []api.FtlAns{{Err: api.ErrKind}, {}, {Err: api.ErrKind}})
		}
	}
	ops := []api.FtlOp{read(-1), trim(16), read(15), trim(0)}
	want := []api.FtlAns{{Err: api.ErrRange}, {Err: api.ErrRange}, {Err: api.ErrNone}, {Err: api.ErrNone}}
	wantPlay(t, ops, want)
}

// MaxOps operations are not too many, whatever they are; one more is.
func TestBoundsOfOps(t *testing.T) {
	for _, op := range []api.FtlOp{write(2, 8), read(2), trim(2), {}, write(16, 1)} {
		for _, count := range []int{maxOps - 1, maxOps} {
			wantPlain(t, slices.Repeat([]api.FtlOp{op}, count))
		}
		for _, count := range []int{maxOps + 1, 2 * maxOps, 5000} {
			answers, counts, err := Play(slices.Repeat([]api.FtlOp{op}, count))
			if len(answers) != 0 || len(counts) != 0 || err != api.ErrRange {
				t.Errorf("Play of %d times %v is %v, %v and %d", count, op, answers, counts, err)
			}
		}
	}
}

// What comes behind an operation with an error goes on as if it weren't there.
func TestErrorsHaveNoEffect(t *testing.T) {
	wrong := []api.FtlOp{{}, {Kind: 4, N: 1}, write(16, 5), write(-1, 5), read(16), trim(-1)}
	for _, good := range [][]api.FtlOp{hotOps(60, 3, 1, 1), hotOps(60, 16, 0, 1), mixedOps(90, 16, 5, false)} {
		want, wantCounts, _ := Play(good)
		for _, op := range wrong {
			for k := range len(good) + 1 {
				answers, counts, err := Play(slices.Insert(slices.Clone(good), k, op))
				if err != api.OK || len(answers) != len(good)+1 || answers[k].Err == api.OK {
					t.Fatalf("%v at %d comes to %v", op, k, answers)
				}
				answers = slices.Delete(answers, k, k+1)
				if !slices.Equal(answers, want) || !slices.Equal(counts, wantCounts) {
					t.Fatalf("%v at %d makes a difference", op, k)
				}
			}
		}
	}
}

// All lists of up to 5 operations, some of each kind and one of no kind.
func TestSmallLists(t *testing.T) {
	some := []api.FtlOp{write(0, 7), write(0, 0), write(15, 9), read(0), read(15), trim(0), trim(15), {}}
	lists := [][]api.FtlOp{nil}
	for i := 0; i < len(lists); i++ {
		wantPlain(t, lists[i])
		if len(lists[i]) == 5 {
			continue
		}
		for _, op := range some {
			lists = append(lists, append(slices.Clone(lists[i]), op))
		}
	}
}

// The erase counts are allowed at any time, not only when all is done.
func TestLongListsAndTheirPrefixes(t *testing.T) {
	for _, ops := range longLists() {
		for count := 0; count <= len(ops); count += 5 {
			wantPlain(t, ops[:count])
		}
		wantPlain(t, ops)
	}
}

// All pages in use, and any of them is written again, as long as operations
// are left: it never fails for lack of space.
func TestWritesNeverFail(t *testing.T) {
	for hot := 1; hot <= numbers; hot++ {
		for first := range numbers {
			for _, by := range []int{1, 4, 7} {
				wantPlain(t, hotOps(maxOps-2*numbers, hot, first, by))
			}
		}
	}
}

// Pages that stay as they are keep their data, wherever they are moved to.
func TestPagesThatAreNotWrittenAgain(t *testing.T) {
	for n := range numbers {
		ops := onEach(func(n int) api.FtlOp { return write(n, 50+n) })
		for k := range 300 {
			ops = append(ops, write(n, k))
		}
		answers, _, _ := Play(append(ops, onEach(read)...))
		for other := range numbers {
			want := api.FtlAns{Data: 50 + other}
			if other == n {
				want.Data = 299
			}
			if got := answers[len(ops)+other]; got != want {
				t.Errorf("after 300 writes of %d page %d has %v, not %v", n, other, got, want)
			}
		}
	}
}

// A page that was emptied stays empty while the others move.
func TestTrimmedPagesStayEmpty(t *testing.T) {
	for n := range numbers {
		ops := append(onEach(func(n int) api.FtlOp { return write(n, n) }), trim(n))
		for k := range 250 {
			ops = append(ops, write((n+1+k%3)%numbers, k))
		}
		wantPlain(t, append(ops, onEach(read)...))
	}
}

// A device that was full and emptied again takes as much as a new one.
func TestFillAndEmpty(t *testing.T) {
	var ops []api.FtlOp
	for range 8 {
		ops = slices.Concat(ops, onEach(func(n int) api.FtlOp { return write(n, len(ops)+n) }), onEach(read), onEach(trim))
	}
	wantPlain(t, ops)
}

// wantPlaces checks that each page that is not empty has its data on the flash.
func wantPlaces(t *testing.T, d *device, data map[int]int) {
	t.Helper()
	for n, place := range d.placeOf {
		want, full := data[n]
		if !full {
			if place != none {
				t.Fatalf("page %d is empty, but has the place %d", n, place)
			}
			continue
		}
		if place < 0 || place >= blocks*pages {
			t.Fatalf("page %d has the place %d", n, place)
		}
		b := d.flash[place/pages]
		if place%pages >= b.Done || b.Data[place%pages] != want {
			t.Fatalf("page %d should have %d at the place %d, but there is %v", n, want, place, b)
		}
	}
}

// programmed reports whether a page was programmed in between, and checks that
// none was that had not been erased.
func programmed(t *testing.T, before, after []api.Block) bool {
	t.Helper()
	found := false
	for k, b := range after {
		old := before[k]
		if b.Wear != old.Wear {
			found = found || b.Done > 0
			continue
		}
		if b.Done < old.Done || !slices.Equal(b.Data[:old.Done], old.Data[:old.Done]) {
			t.Fatalf("without an erasure %v became %v", old, b)
		}
		found = found || b.Done > old.Done
	}
	return found
}

// All data are on a flash that only takes what a flash may take: each write
// programs a page, and no page twice between erasures.
func TestDataAreOnTheFlash(t *testing.T) {
	for _, ops := range longLists() {
		d, data := newDevice(), map[int]int{}
		for _, op := range ops {
			before := slices.Clone(d.flash)
			answer := d.perform(op)
			if answer.Err == api.OK && op.Kind == 1 {
				data[op.N] = op.Data
			}
			if answer.Err == api.OK && op.Kind == 3 {
				delete(data, op.N)
			}
			if !nand.Right(d.flash) {
				t.Fatalf("%v leaves the flash %v", op, d.flash)
			}
			wrote := programmed(t, before, d.flash)
			if answer.Err == api.OK && op.Kind == 1 && !wrote {
				t.Fatalf("%v programs no page", op)
			}
			if answer.Err != api.OK && !slices.Equal(d.flash, before) {
				t.Fatalf("%v has an error and changes the flash", op)
			}
			wantPlaces(t, d, data)
		}
	}
}

// What is read comes from the flash: with other data there, it is other data.
func TestReadsComeFromTheFlash(t *testing.T) {
	for _, ops := range longLists() {
		d := newDevice()
		for _, op := range ops {
			d.perform(op)
		}
		for k := range d.flash {
			for page := range d.flash[k].Done {
				d.flash[k].Data[page] += 5000
			}
		}
		for n, answer := range plainPlay(append(slices.Clone(ops), onEach(read)...))[len(ops):] {
			if answer.Err == api.OK {
				answer.Data += 5000
			}
			if got := d.perform(read(n)); got != answer {
				t.Fatalf("page %d has %v on the flash, but %v is read", n, answer, got)
			}
		}
	}
}

// The blocks are worn in turn, which is more even than the chapter demands.
func TestBlocksAreErasedInTurn(t *testing.T) {
	for _, ops := range longLists() {
		_, counts, _ := Play(ops)
		for k, count := range counts {
			if count > counts[0] || count < counts[0]-1 || k > 0 && count > counts[k-1] {
				t.Errorf("the erase counts are %v", counts)
			}
		}
	}
}

// A block is only erased if that gives room: writes of a page or two need no
// more erasures than it takes to use all pages.
func TestFewErasures(t *testing.T) {
	_, counts, _ := Play(writeEach(slices.Repeat([]int{4}, 28)...))
	if !slices.Equal(counts, make([]int, blocks)) {
		t.Errorf("while there are blank pages the erase counts are %v", counts)
	}
	_, counts, _ = Play(writeEach(slices.Repeat([]int{4, 9}, 200)...))
	if slices.Max(counts) > 400/(blocks*pages)+2 {
		t.Errorf("after 400 writes of two pages the erase counts are %v", counts)
	}
}

func TestSameArgumentsSameResults(t *testing.T) {
	for _, ops := range longLists() {
		answers, counts, err := Play(ops)
		Play(mixedOps(300, 16, 4, true))
		again, countsAgain, errAgain := Play(slices.Clone(ops))
		if !slices.Equal(answers, again) || !slices.Equal(counts, countsAgain) || err != errAgain {
			t.Errorf("a second Play of %s differs", shortened(ops))
		}
	}
}

func TestArgumentsStayAsTheyAre(t *testing.T) {
	for count := range 60 {
		all := append(mixedOps(count, 16, 4, true), write(3, 1), trim(3), read(3))
		before := slices.Clone(all)
		wantPlain(t, all[:count])
		if !slices.Equal(all, before) {
			t.Fatalf("Play makes %v of %v", all, before)
		}
	}
}

// A caller may change results without changing those of another call.
func TestResultsAreNewMemory(t *testing.T) {
	ops := hotOps(100, 2, 0, 1)
	before := slices.Clone(ops)
	answers, counts, _ := Play(ops)
	clear(answers[:cap(answers)])
	clear(counts[:cap(counts)])
	if !slices.Equal(ops, before) {
		t.Errorf("a change of the results changed the operations")
	}
	wantPlain(t, ops)
}
