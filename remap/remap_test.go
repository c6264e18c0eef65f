package remap

import (
	"fmt"
	"math"
	"slices"
	"testing"

	"flintstore/api"
)

const (
	numbers  = 16
	maxPages = 4096
)

// outcome is what Play returns.
type outcome struct {
	answers  []api.Errno
	pageOf   [numbers]int
	numberOf []int
	err      api.Errno
}

// plainPlay writes down which number each page was given, one behind the
// other, and looks all else up in that.
func plainPlay(pages int, ops []api.MapOp) outcome {
	if pages < 0 || pages > maxPages {
		return outcome{err: api.ErrRange}
	}
	var given []int
	out := outcome{}
	for _, op := range ops {
		page := slices.Index(given, op.N)
		switch {
		case op.Kind != 1 && op.Kind != 2:
			out.answers = append(out.answers, api.ErrKind)
			continue
		case op.N < 0 || op.N > 15:
			out.answers = append(out.answers, api.ErrRange)
			continue
		case op.Kind == 1 && len(given) == pages:
			out.answers = append(out.answers, api.ErrFull)
			continue
		case op.Kind == 2 && page < 0:
			out.answers = append(out.answers, api.ErrNone)
			continue
		}
		if page >= 0 {
			given[page] = -1
		}
		if op.Kind == 1 {
			given = append(given, op.N)
		}
		out.answers = append(out.answers, api.OK)
	}
	for n := range numbers {
		out.pageOf[n] = slices.Index(given, n)
	}
	for len(given) < pages {
		given = append(given, -1)
	}
	out.numberOf = given
	return out
}

// plainAgain looks for each number from the end.
func plainAgain(written []int) ([numbers]int, api.Errno) {
	for _, n := range written {
		if n < 0 || n > 15 {
			return [numbers]int{}, api.ErrForm
		}
	}
	var last [numbers]int
	for n := range numbers {
		k := len(written) - 1
		for k >= 0 && written[k] != n {
			k--
		}
		last[n] = k
	}
	return last, api.OK
}

func wantPlay(t *testing.T, pages int, ops []api.MapOp, want outcome) {
	t.Helper()
	var got outcome
	got.answers, got.pageOf, got.numberOf, got.err = Play(pages, ops)
	if !slices.Equal(got.answers, want.answers) || got.pageOf != want.pageOf ||
		!slices.Equal(got.numberOf, want.numberOf) || got.err != want.err {
		t.Errorf("Play(%d, %s) is %s, %v, %s and %d, not %s, %v, %s and %d", pages, shortened(ops),
			shortened(got.answers), got.pageOf, shortened(got.numberOf), got.err,
			shortened(want.answers), want.pageOf, shortened(want.numberOf), want.err)
	}
}

// wantPlain checks Play against the chapter.
func wantPlain(t *testing.T, pages int, ops []api.MapOp) {
	t.Helper()
	wantPlay(t, pages, ops, plainPlay(pages, ops))
}

func wantAgain(t *testing.T, written []int, want [numbers]int, wantErr api.Errno) {
	t.Helper()
	if got, err := Again(written); got != want || err != wantErr {
		t.Errorf("Again(%s) is %v and %d, not %v and %d", shortened(written), got, err, want, wantErr)
	}
}

// shortened tells the elements of l, or how many there are.
func shortened[T any](l []T) string {
	if len(l) > 20 {
		return fmt.Sprintf("[%d elements]", len(l))
	}
	return fmt.Sprint(l)
}

// at returns what Play or Again return if the first numbers have these pages.
func at(pages ...int) [numbers]int {
	var all [numbers]int
	for n := range all {
		all[n] = -1
	}
	copy(all[:], pages)
	return all
}

// write returns operations that write these numbers.
func write(list ...int) []api.MapOp {
	var ops []api.MapOp
	for _, n := range list {
		ops = append(ops, api.MapOp{Kind: 1, N: n})
	}
	return ops
}

// trim returns operations that trim these numbers.
func trim(list ...int) []api.MapOp {
	var ops []api.MapOp
	for _, n := range list {
		ops = append(ops, api.MapOp{Kind: 2, N: n})
	}
	return ops
}

// smallOps returns all lists of up to 5 operations, three of each kind and one
// of no kind.
func smallOps() [][]api.MapOp {
	some := slices.Concat(write(0, 1, 15), trim(0, 1, 15), []api.MapOp{{}})
	lists := [][]api.MapOp{nil}
	for i := 0; len(lists[i]) < 5; i++ {
		for _, op := range some {
			lists = append(lists, append(slices.Clone(lists[i]), op))
		}
	}
	return lists
}

// mixedOps returns count operations in no order: about one in every is a trim,
// and some are invalid if wrong.
func mixedOps(count, every int, wrong bool) []api.MapOp {
	var ops []api.MapOp
	x := uint64(count*every + 1)
	for range count {
		x = x*6364136223846793005 + 1442695040888963407
		op := api.MapOp{Kind: 1, N: int(x >> 40 % numbers)}
		if x>>33%uint64(every) == 0 {
			op.Kind = 2
		}
		if wrong && x>>50%9 == 0 {
			op.Kind = int(x>>55%6) - 2
		}
		if wrong && x>>45%9 == 0 {
			op.N = int(x>>57%22) - 3
		}
		ops = append(ops, op)
	}
	return ops
}

// somePages returns valid numbers of pages.
func somePages() []int {
	return []int{0, 1, 2, 15, 16, 17, 100, 399, 400, 401, maxPages - 1, maxPages}
}

// wrongPages returns numbers of pages that are not valid.
func wrongPages() []int {
	return []int{math.MinInt, -maxPages, -2, -1, maxPages + 1, maxPages * 2, math.MaxInt}
}

// wrongNumbers returns numbers that are not logical numbers.
func wrongNumbers() []int {
	return []int{math.MinInt, -16, -2, -1, 16, 17, 32, 1 << 32, math.MaxInt}
}

func TestPlayKnownOps(t *testing.T) {
	ok := func(count int) []api.Errno { return make([]api.Errno, count) }
	wantPlay(t, 3, nil, outcome{pageOf: at(), numberOf: []int{-1, -1, -1}})
	wantPlay(t, 3, []api.MapOp{}, outcome{pageOf: at(), numberOf: []int{-1, -1, -1}})
	wantPlay(t, 0, nil, outcome{pageOf: at()})
	wantPlay(t, 3, write(0), outcome{ok(1), at(0), []int{0, -1, -1}, api.OK})
	wantPlay(t, 3, write(2, 0, 1), outcome{ok(3), at(1, 2, 0), []int{2, 0, 1}, api.OK})
	wantPlay(t, 4, write(0, 1, 0), outcome{ok(3), at(2, 1), []int{-1, 1, 0, -1}, api.OK})
	wantPlay(t, 3, write(1, 1, 1), outcome{ok(3), at(-1, 2), []int{-1, -1, 1}, api.OK})
	wantPlay(t, 3, append(write(0, 1), trim(0)...), outcome{ok(3), at(-1, 1), []int{-1, 1, -1}, api.OK})
	wantPlay(t, 3, slices.Concat(write(0), trim(0), write(0)), outcome{ok(3), at(1), []int{-1, 0, -1}, api.OK})
}

// A page that lost its number is not blank: neither by a write nor by a trim.
func TestPlayPagesDoNotBecomeBlank(t *testing.T) {
	full := func(count int) []api.Errno {
		answers := make([]api.Errno, count)
		answers[count-1] = api.ErrFull
		return answers
	}
	wantPlay(t, 2, write(0, 0, 1), outcome{full(3), at(1), []int{-1, 0}, api.OK})
	wantPlay(t, 2, write(0, 0, 0), outcome{full(3), at(1), []int{-1, 0}, api.OK})
	wantPlay(t, 1, slices.Concat(write(3), trim(3), write(3)), outcome{full(3), at(), []int{-1}, api.OK})
	wantPlay(t, 2, slices.Concat(write(0, 1), trim(0), write(2)), outcome{full(4), at(-1, 1), []int{-1, 1}, api.OK})
	wantPlay(t, 0, write(0), outcome{full(1), at(), nil, api.OK})
}

func TestPlayBoundsOfPages(t *testing.T) {
	for _, pages := range somePages() {
		wantPlay(t, pages, nil, outcome{pageOf: at(), numberOf: slices.Repeat([]int{-1}, pages)})
		wantPlain(t, pages, mixedOps(pages+3, 4, true))
	}
	for _, pages := range wrongPages() {
		wantPlay(t, pages, nil, outcome{err: api.ErrRange})
		wantPlay(t, pages, write(0, 1), outcome{err: api.ErrRange})
		wantPlay(t, pages, []api.MapOp{{}, {Kind: 1, N: -1}}, outcome{err: api.ErrRange})
	}
}

// The last page of the largest number of pages can be written, and no more.
func TestPlayFillsAllPages(t *testing.T) {
	ops := slices.Repeat(write(4, 9), maxPages/2+1)
	want := outcome{make([]api.Errno, maxPages+2), at(), slices.Repeat([]int{-1}, maxPages), api.OK}
	want.answers[maxPages], want.answers[maxPages+1] = api.ErrFull, api.ErrFull
	want.pageOf[4], want.pageOf[9] = maxPages-2, maxPages-1
	want.numberOf[maxPages-2], want.numberOf[maxPages-1] = 4, 9
	wantPlay(t, maxPages, ops, want)
}

func TestPlayBoundsOfNumbers(t *testing.T) {
	for n := range numbers {
		want := outcome{[]api.Errno{api.OK}, at(), []int{n}, api.OK}
		want.pageOf[n] = 0
		wantPlay(t, 1, write(n), want)
		wantPlay(t, 1, trim(n), outcome{[]api.Errno{api.ErrNone}, at(), []int{-1}, api.OK})
	}
	for _, n := range wrongNumbers() {
		wantPlay(t, 1, write(n), outcome{[]api.Errno{api.ErrRange}, at(), []int{-1}, api.OK})
		wantPlay(t, 1, trim(n), outcome{[]api.Errno{api.ErrRange}, at(), []int{-1}, api.OK})
	}
}

// The kind comes first, then the number, then what is there.
func TestPlayOrderOfErrors(t *testing.T) {
	ops := []api.MapOp{
		{Kind: 0, N: 0}, {Kind: 3, N: 0}, {Kind: -1, N: 5}, {Kind: math.MinInt}, {Kind: math.MaxInt, N: 15},
		{Kind: 0, N: -1}, {Kind: 3, N: 16}, {Kind: math.MaxInt, N: math.MinInt},
		{Kind: 1, N: -1}, {Kind: 1, N: 16}, {Kind: 2, N: -1}, {Kind: 2, N: 16},
		{Kind: 1, N: 0}, {Kind: 2, N: 0},
	}
	answers := []api.Errno{
		api.ErrKind, api.ErrKind, api.ErrKind, api.ErrKind, api.ErrKind,
		api.ErrKind, api.ErrKind, api.ErrKind,
		api.ErrRange, api.ErrRange, api.ErrRange, api.ErrRange,
		api.ErrFull, api.ErrNone,
	}
	wantPlay(t, 0, ops, outcome{answers, at(), nil, api.OK})
	answers[12], answers[13] = api.OK, api.OK
	wantPlay(t, 1, ops, outcome{answers, at(), []int{-1}, api.OK})
}

// The operations behind one with an error go on as if it weren't there.
func TestPlayErrorsHaveNoEffect(t *testing.T) {
	wrong := []api.MapOp{{}, {Kind: 3, N: 1}, {Kind: 1, N: 16}, {Kind: 1, N: -1}, {Kind: 2, N: 16}, {Kind: 2, N: 7}}
	good := slices.Concat(write(0, 1, 0, 2), trim(1), write(1), trim(0))
	for _, pages := range []int{5, 6, 9} {
		want := plainPlay(pages, good)
		for _, op := range wrong {
			for k := range len(good) + 1 {
				answers, pageOf, numberOf, err := Play(pages, slices.Insert(slices.Clone(good), k, op))
				if len(answers) != len(good)+1 || answers[k] == api.OK {
					t.Fatalf("%v at %d comes to %v", op, k, answers)
				}
				got := outcome{slices.Delete(answers, k, k+1), pageOf, numberOf, err}
				if fmt.Sprint(got) != fmt.Sprint(want) {
					t.Errorf("with %v at %d it is %v, not %v", op, k, got, want)
				}
			}
		}
	}
}

func TestPlaySmallOps(t *testing.T) {
	for _, ops := range smallOps() {
		for pages := range 5 {
			wantPlain(t, pages, ops)
		}
	}
}

// Neither the operations nor the pages are limited to few.
func TestPlayMixedOps(t *testing.T) {
	for count := range 60 {
		for _, every := range []int{1, 2, 3, 5, 100} {
			for _, pages := range []int{0, 1, 7, 30, 60} {
				wantPlain(t, pages, mixedOps(count, every, true))
				wantPlain(t, pages, mixedOps(count, every, false))
			}
		}
	}
	for _, count := range []int{399, 400, 401, 4096, 4097, 9000} {
		for _, pages := range somePages() {
			wantPlain(t, pages, mixedOps(count, 3, true))
			wantPlain(t, pages, mixedOps(count, 50, false))
		}
	}
}

// Both sides of the mapping tell the same.
func TestPlayMappingIsConsistent(t *testing.T) {
	for count := range 200 {
		_, pageOf, numberOf, _ := Play(100, mixedOps(count, 3, true))
		for n, page := range pageOf {
			if page != -1 && numberOf[page] != n {
				t.Errorf("after %d operations %d has page %d, which has %d", count, n, page, numberOf[page])
			}
		}
		for page, n := range numberOf {
			if n != -1 && pageOf[n] != page {
				t.Errorf("after %d operations page %d has %d, which has page %d", count, page, n, pageOf[n])
			}
		}
	}
}

func TestAgainKnownLists(t *testing.T) {
	wantAgain(t, nil, at(), api.OK)
	wantAgain(t, []int{}, at(), api.OK)
	wantAgain(t, []int{0}, at(0), api.OK)
	wantAgain(t, []int{1, 0, 1}, at(1, 2), api.OK)
	wantAgain(t, []int{2, 2, 0, 2, 0}, at(4, -1, 3), api.OK)
	wantAgain(t, []int{15, 14, 13, 12, 11, 10, 9, 8, 7, 6, 5, 4, 3, 2, 1, 0},
		at(15, 14, 13, 12, 11, 10, 9, 8, 7, 6, 5, 4, 3, 2, 1, 0), api.OK)
}

func TestAgainWrongLists(t *testing.T) {
	for _, n := range wrongNumbers() {
		for _, l := range [][]int{{n}, {n, 0}, {0, n}, {3, n, 4}, {n, n}, {0, 1, 2, 3, n}} {
			wantAgain(t, l, [numbers]int{}, api.ErrForm)
		}
	}
}

// All lists of up to 6 numbers, the first and the last one and a wrong one
// among them.
func TestAgainSmallLists(t *testing.T) {
	lists := [][]int{nil}
	for i := 0; len(lists[i]) < 6; i++ {
		for _, n := range []int{0, 7, 15, 16} {
			lists = append(lists, append(slices.Clone(lists[i]), n))
		}
	}
	for _, l := range lists {
		want, err := plainAgain(l)
		wantAgain(t, l, want, err)
	}
}

// The numbers that were written are not limited to few.
func TestAgainLongLists(t *testing.T) {
	for _, count := range []int{100, 400, 401, 4096, 4097, 20000} {
		var written []int
		for _, op := range mixedOps(count, 1, false) {
			written = append(written, op.N)
		}
		want, err := plainAgain(written)
		wantAgain(t, written, want, err)
		written[0] = 16
		wantAgain(t, written, [numbers]int{}, api.ErrForm)
	}
}

// What was written tells again where each number is, as long as nothing was
// trimmed.
func TestAgainFindsWhatPlayMapped(t *testing.T) {
	for count := range 200 {
		var written []int
		for _, op := range mixedOps(count, 1, false) {
			written = append(written, op.N)
		}
		_, pageOf, _, _ := Play(200, write(written...))
		wantAgain(t, written, pageOf, api.OK)
	}
}

// within returns a copy of l that has spare capacity, and the memory of both.
func within[T any](l []T, spare T) (part, all []T) {
	all = append(slices.Clone(l), spare, spare, spare)
	return all[:len(l)], all
}

func TestArgumentsStayAsTheyAre(t *testing.T) {
	for count := range 30 {
		ops, all := within(mixedOps(count, 3, true), api.MapOp{Kind: 1, N: 3})
		before := slices.Clone(all)
		Play(9, ops)
		Play(-1, ops)
		if !slices.Equal(all, before) {
			t.Fatalf("Play makes %v of %v", all, before)
		}
		var list []int
		for _, op := range ops {
			list = append(list, op.N)
		}
		written, allWritten := within(list, 5)
		beforeWritten := slices.Clone(allWritten)
		Again(written)
		if !slices.Equal(allWritten, beforeWritten) {
			t.Fatalf("Again makes %v of %v", allWritten, beforeWritten)
		}
	}
}

// A caller may change results without changing those of another call.
func TestResultsAreNewMemory(t *testing.T) {
	ops := write(0, 1, 0)
	answers, _, numberOf, _ := Play(4, ops)
	answers[0], numberOf[0] = api.ErrDead, 9
	if ops[0] != (api.MapOp{Kind: 1, N: 0}) {
		t.Errorf("a change of the results changed the operations: %v", ops)
	}
	wantPlay(t, 4, ops, outcome{make([]api.Errno, 3), at(2, 1), []int{-1, 1, 0, -1}, api.OK})
}
