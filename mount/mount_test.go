package mount

import (
	"fmt"
	"math"
	"slices"
	"testing"

	"flintstore/api"
)

// numbers is how many logical numbers there are.
const numbers = 16

// maxFrom is the largest sequence number to start with.
const maxFrom = 1 << 40

type state = [numbers]int

// whole returns a page whose writing was not broken off.
func whole(seq, n, data int) api.Page {
	return api.Page{Seq: seq, N: n, Data: data, Whole: true}
}

// torn returns a page whose writing was broken off.
func torn(seq, n, data int) api.Page {
	return api.Page{Seq: seq, N: n, Data: data}
}

// counted is a state with something different at every number.
func counted() state {
	var s state
	for n := range s {
		s[n] = 100 + n
	}
	return s
}

// plainFold looks for the last page of each number, after it has seen that all
// numbers are right.
func plainFold(s state, l []api.Page) (state, api.Errno) {
	for _, p := range l {
		if p.N < 0 || p.N > 15 {
			return state{}, api.ErrRange
		}
	}
	for n := range numbers {
		for _, p := range slices.Backward(l) {
			if p.N == n {
				s[n] = p.Data
				break
			}
		}
	}
	return s, api.OK
}

// plainMount goes through all pages anew for each sequence number.
func plainMount(s state, from int, found []api.Page) (state, int, api.Errno) {
	if from < 0 || from > maxFrom {
		return state{}, 0, api.ErrRange
	}
	for {
		at := slices.IndexFunc(found, func(p api.Page) bool { return p.Whole && p.Seq == from })
		if at < 0 {
			return s, from, api.OK
		}
		p := found[at]
		if p.N < 0 || p.N > 15 {
			return state{}, 0, api.ErrRange
		}
		s[p.N] = p.Data
		from++
	}
}

// shortened tells pages, of long lists only the first ones.
func shortened(l []api.Page) string {
	if len(l) <= 12 {
		return fmt.Sprint(l)
	}
	return fmt.Sprintf("%v and %d more", l[:12], len(l)-12)
}

func wantFold(t *testing.T, s state, l []api.Page, want state, wantErr api.Errno) {
	t.Helper()
	if got, err := Fold(s, l); got != want || err != wantErr {
		t.Errorf("Fold(%v, %s) is %v and %d, not %v and %d", s, shortened(l), got, err, want, wantErr)
	}
}

func wantMount(t *testing.T, s state, from int, found []api.Page, want state, wantNext int, wantErr api.Errno) {
	t.Helper()
	if got, next, err := Mount(s, from, found); got != want || next != wantNext || err != wantErr {
		t.Errorf("Mount(%v, %d, %s) is %v, %d and %d, not %v, %d and %d", s, from, shortened(found), got, next, err, want, wantNext, wantErr)
	}
}

// wantPlain checks both functions against the chapter.
func wantPlain(t *testing.T, s state, from int, l []api.Page) {
	t.Helper()
	want, err := plainFold(s, l)
	wantFold(t, s, l, want, err)
	want, next, err := plainMount(s, from, l)
	wantMount(t, s, from, l, want, next, err)
}

// mixed returns n numbers that look mixed up, the same ones each time.
func mixed(n, seed int) []int {
	x := uint64(seed)*2654435761 + 12345
	out := make([]int, n)
	for k := range out {
		x = x*6364136223846793005 + 1442695040888963407
		out[k] = int(x >> 33)
	}
	return out
}

// shuffled returns the pages of l in a mixed order.
func shuffled(l []api.Page, seed int) []api.Page {
	out := slices.Clone(l)
	for k, r := range mixed(len(out), seed) {
		other := r % (k + 1)
		out[k], out[other] = out[other], out[k]
	}
	return out
}

func TestFoldKnownPages(t *testing.T) {
	wantFold(t, state{}, nil, state{}, api.OK)
	wantFold(t, counted(), nil, counted(), api.OK)
	wantFold(t, counted(), []api.Page{}, counted(), api.OK)
	wantFold(t, state{3: 4}, []api.Page{whole(0, 1, 7)}, state{1: 7, 3: 4}, api.OK)
	wantFold(t, state{3: 4}, []api.Page{whole(0, 3, 7)}, state{3: 7}, api.OK)
	wantFold(t, state{}, []api.Page{whole(0, 0, 7), whole(1, 15, 8)}, state{0: 7, 15: 8}, api.OK)
	wantFold(t, state{}, []api.Page{whole(0, 2, 7), whole(1, 2, 8), whole(2, 2, 9)}, state{2: 9}, api.OK)
	// Data may be anything, 0 too.
	wantFold(t, state{1: 5, 2: 5, 3: 5}, []api.Page{whole(0, 1, 0), whole(0, 2, math.MinInt), whole(0, 3, math.MaxInt)}, state{2: math.MinInt, 3: math.MaxInt}, api.OK)
}

// Fold takes the pages as they come: it needs neither whole pages nor sequence
// numbers.
func TestFoldOnlyLooksAtNumbersAndData(t *testing.T) {
	wantFold(t, state{}, []api.Page{torn(0, 1, 7)}, state{1: 7}, api.OK)
	wantFold(t, state{}, []api.Page{whole(0, 1, 7), torn(1, 1, 8)}, state{1: 8}, api.OK)
	wantFold(t, state{}, []api.Page{torn(0, 1, 7), whole(1, 1, 8)}, state{1: 8}, api.OK)
	wantFold(t, state{}, []api.Page{whole(9, 1, 7), whole(3, 1, 8)}, state{1: 8}, api.OK)
	wantFold(t, state{}, []api.Page{whole(5, 1, 7), whole(5, 1, 8)}, state{1: 8}, api.OK)
	wantFold(t, state{}, []api.Page{whole(-1, 1, 7), whole(math.MinInt, 2, 8), whole(math.MaxInt, 3, 9)}, state{1: 7, 2: 8, 3: 9}, api.OK)
}

func TestFoldEveryNumber(t *testing.T) {
	for n := range numbers {
		for _, p := range []api.Page{whole(0, n, 7), torn(0, n, 7)} {
			want := counted()
			want[n] = 7
			wantFold(t, counted(), []api.Page{p}, want, api.OK)
		}
	}
}

// wrongNumbers are numbers that no page may have.
func wrongNumbers() []int {
	return []int{-1, -2, numbers, numbers + 1, 1 << 32, -1 << 32, math.MinInt, math.MaxInt}
}

// A wrong number anywhere, even in a page that is not whole, and nothing is
// stored.
func TestFoldWrongNumbers(t *testing.T) {
	right := []api.Page{whole(0, 1, 7), torn(1, 2, 8), whole(2, 15, 9)}
	for _, n := range wrongNumbers() {
		for _, wrong := range []api.Page{whole(3, n, 6), torn(3, n, 6), whole(-1, n, 6)} {
			for at := range len(right) + 1 {
				wantFold(t, counted(), slices.Insert(slices.Clone(right), at, wrong), state{}, api.ErrRange)
			}
			wantFold(t, counted(), []api.Page{wrong}, state{}, api.ErrRange)
		}
	}
}

func TestMountKnownPages(t *testing.T) {
	// The example of the chapter.
	wantMount(t, state{}, 3, []api.Page{whole(4, 1, 7), whole(3, 0, 8)}, state{0: 8, 1: 7}, 5, api.OK)
	wantMount(t, state{}, 3, []api.Page{whole(4, 1, 7), whole(3, 1, 8)}, state{1: 7}, 5, api.OK)
	wantMount(t, state{}, 3, []api.Page{whole(3, 1, 8), whole(4, 1, 7)}, state{1: 7}, 5, api.OK)

	wantMount(t, state{}, 0, nil, state{}, 0, api.OK)
	wantMount(t, counted(), 5, nil, counted(), 5, api.OK)
	wantMount(t, counted(), 5, []api.Page{}, counted(), 5, api.OK)
	wantMount(t, state{9}, 0, []api.Page{whole(0, 15, 2)}, state{0: 9, 15: 2}, 1, api.OK)
	wantMount(t, state{9}, 0, []api.Page{whole(0, 0, 2)}, state{0: 2}, 1, api.OK)
	wantMount(t, state{9}, 0, []api.Page{whole(0, 0, 0)}, state{}, 1, api.OK)
	wantMount(t, state{}, 7, []api.Page{whole(7, 0, math.MinInt), whole(8, 1, math.MaxInt)}, state{math.MinInt, math.MaxInt}, 9, api.OK)
}

// Replay ends at the first number that is not found, whatever is behind it.
func TestMountEndsAtAGap(t *testing.T) {
	l := []api.Page{whole(3, 0, 1), whole(4, 1, 2), whole(6, 2, 3), whole(7, 3, 4)}
	wantMount(t, state{}, 3, l, state{1, 2}, 5, api.OK)
	wantMount(t, state{}, 4, l, state{1: 2}, 5, api.OK)
	wantMount(t, state{}, 6, l, state{2: 3, 3: 4}, 8, api.OK)
	wantMount(t, state{}, 7, l, state{3: 4}, 8, api.OK)
	for _, from := range []int{0, 1, 2, 5, 8, 9, maxFrom} {
		wantMount(t, counted(), from, l, counted(), from, api.OK)
	}
}

// A page that is not whole counts as not found.
func TestMountPassesOverTornPages(t *testing.T) {
	wantMount(t, state{}, 3, []api.Page{torn(3, 0, 1)}, state{}, 3, api.OK)
	wantMount(t, state{}, 3, []api.Page{whole(3, 0, 1), torn(4, 1, 2), whole(5, 2, 3)}, state{1}, 4, api.OK)
	// It doesn't stand in the way of a whole one with the same number.
	wantMount(t, state{}, 3, []api.Page{torn(3, 0, 1), whole(3, 1, 2)}, state{1: 2}, 4, api.OK)
	wantMount(t, state{}, 3, []api.Page{whole(3, 1, 2), torn(3, 0, 1)}, state{1: 2}, 4, api.OK)
	wantMount(t, state{}, 3, []api.Page{torn(3, 0, 1), torn(3, 0, 2), whole(3, 1, 3), whole(4, 2, 4)}, state{1: 3, 2: 4}, 5, api.OK)
}

// Of whole pages with the same sequence number the first one counts, and it
// counts once.
func TestMountTakesTheFirstOfTheSame(t *testing.T) {
	wantMount(t, state{}, 3, []api.Page{whole(3, 0, 1), whole(3, 0, 2)}, state{1}, 4, api.OK)
	wantMount(t, state{}, 3, []api.Page{whole(3, 0, 1), whole(3, 1, 2)}, state{1}, 4, api.OK)
	wantMount(t, state{}, 3, []api.Page{whole(3, 1, 2), whole(3, 0, 1), whole(3, 2, 3)}, state{1: 2}, 4, api.OK)
	wantMount(t, state{}, 3, []api.Page{whole(4, 0, 5), whole(3, 0, 1), whole(4, 0, 6), whole(3, 0, 2)}, state{5}, 5, api.OK)
	// A page with nothing but zero fields is a page too.
	wantMount(t, state{9}, 0, []api.Page{whole(0, 0, 0), whole(0, 0, 2)}, state{}, 1, api.OK)
}

// Only pages that are replayed need a right number.
func TestMountWrongNumbers(t *testing.T) {
	for _, n := range wrongNumbers() {
		for at := range 3 {
			l := []api.Page{whole(3, 0, 1), whole(4, 1, 2), whole(5, 2, 3)}
			l[at].N = n
			wantMount(t, counted(), 3, l, state{}, 0, api.ErrRange)
			slices.Reverse(l)
			wantMount(t, counted(), 3, l, state{}, 0, api.ErrRange)
		}
		right := []api.Page{whole(3, 0, 1), whole(4, 1, 2)}
		for _, wrong := range []api.Page{torn(3, n, 6), torn(5, n, 6), whole(2, n, 6), whole(6, n, 6), whole(-1, n, 6), whole(math.MaxInt, n, 6)} {
			for k := range 3 {
				wantMount(t, state{}, 3, slices.Insert(slices.Clone(right), k, wrong), state{1, 2}, 5, api.OK)
			}
		}
		// Behind a page with the same sequence number it isn't replayed.
		wantMount(t, state{}, 3, []api.Page{whole(3, 0, 1), whole(3, n, 6)}, state{1}, 4, api.OK)
		wantMount(t, state{}, 3, []api.Page{whole(3, n, 6), whole(3, 0, 1)}, state{}, 0, api.ErrRange)
	}
}

func TestMountFrom(t *testing.T) {
	for _, from := range []int{-1, -2, maxFrom + 1, maxFrom + 2, -maxFrom, 2 * maxFrom, math.MinInt, math.MaxInt} {
		for _, l := range [][]api.Page{nil, {whole(3, 0, 1)}, {whole(from, 0, 1)}, {whole(from, 99, 1)}, {whole(3, 99, 1)}} {
			wantMount(t, counted(), from, l, state{}, 0, api.ErrRange)
		}
	}
	for _, from := range []int{0, 1, 1 << 31, 1 << 32, maxFrom - 1, maxFrom} {
		wantMount(t, counted(), from, nil, counted(), from, api.OK)
		wantMount(t, state{}, from, []api.Page{whole(from, 0, 1)}, state{1}, from+1, api.OK)
		wantMount(t, state{}, from, []api.Page{whole(from-1, 0, 1), whole(from+1, 0, 2)}, state{}, from, api.OK)
		wantMount(t, state{}, from, []api.Page{whole(from+1, 1, 2), whole(from, 0, 1)}, state{1, 2}, from+2, api.OK)
		wantMount(t, state{}, from, []api.Page{whole(from, 16, 1)}, state{}, 0, api.ErrRange)
	}
}

// Sequence numbers that no replay comes to don't matter.
func TestMountStrangeSequenceNumbers(t *testing.T) {
	l := []api.Page{whole(-1, 0, 1), whole(math.MinInt, 1, 2), whole(math.MaxInt, 2, 3), whole(0, 3, 4), whole(-maxFrom, 4, 5)}
	wantMount(t, state{}, 0, l, state{3: 4}, 1, api.OK)
	wantMount(t, state{}, 1, l, state{}, 1, api.OK)
	wantMount(t, state{}, maxFrom, l, state{}, maxFrom, api.OK)
}

// All lists of up to four pages of those that may matter.
func TestSmallLists(t *testing.T) {
	pages := []api.Page{whole(2, 0, 1), whole(3, 0, 2), whole(3, 1, 3), torn(3, 0, 4), whole(4, 0, 5), whole(5, 1, 6), whole(4, -1, 7), torn(4, 16, 8)}
	lists := [][]api.Page{nil}
	for range 4 {
		var longer [][]api.Page
		for _, l := range lists {
			for _, p := range pages {
				longer = append(longer, append(slices.Clip(l), p))
			}
		}
		for _, l := range longer {
			for from := 2; from <= 5; from++ {
				wantPlain(t, counted(), from, l)
			}
		}
		lists = longer
	}
}

func TestMixedLists(t *testing.T) {
	for seed := range 2000 {
		r := mixed(200, seed)
		l := make([]api.Page, seed%40)
		for k := range l {
			l[k] = api.Page{Seq: r[4*k] % (1 + seed%23), N: r[4*k+1] % 16, Data: r[4*k+2], Whole: r[4*k+3]%4 > 0}
			if r[4*k+3]%61 == 0 {
				l[k].N = r[4*k+2]%60 - 20
			}
		}
		for from := range 6 {
			wantPlain(t, counted(), from, l)
		}
	}
}

// The order of the pages found does not matter if no two of them have the same
// sequence number.
func TestMountInAnyOrder(t *testing.T) {
	for seed := range 200 {
		r := mixed(120, seed)
		l := make([]api.Page, 60)
		for k := range l {
			l[k] = whole(10+k, r[2*k]%16, r[2*k+1])
		}
		l[40].Whole = seed%2 == 0
		want, next, err := plainMount(counted(), 10, l)
		wantMount(t, counted(), 10, shuffled(l, seed), want, next, err)
		slices.Reverse(l)
		wantMount(t, counted(), 10, l, want, next, err)
	}
}

// What is mounted with the pages of an earlier time, and then from there on
// with all pages, is the same as what is mounted at once.
func TestMountGoesOn(t *testing.T) {
	r := mixed(60, 5)
	l := make([]api.Page, 30)
	for k := range l {
		l[k] = whole(k, r[2*k]%16, r[2*k+1])
	}
	want, next, err := Mount(counted(), 0, l)
	for early := range len(l) + 1 {
		s, from, failed := Mount(counted(), 0, l[:early])
		if failed != api.OK || from != early {
			t.Fatalf("of %d pages, Mount replays %d with %d", early, from, failed)
		}
		wantMount(t, s, from, shuffled(l, early), want, next, err)
	}
}

// Long lists, in an order for which a search from the start would take long.
func TestLongLists(t *testing.T) {
	const many = 200_000
	l := make([]api.Page, many)
	var want state
	for k := range l {
		l[many-1-k] = whole(maxFrom-7+k, k*k%16, k)
		want[k*k%16] = k
	}
	wantMount(t, state{}, maxFrom-7, l, want, maxFrom-7+many, api.OK)
	folded, err := plainFold(state{}, l)
	wantFold(t, state{}, l, folded, err)
}

func TestArgumentsStayAsTheyAre(t *testing.T) {
	all := []api.Page{whole(4, 1, 7), whole(3, 0, 8), torn(5, 2, 9), whole(5, 2, 1), whole(3, 99, 2), whole(6, 3, 4)}
	before := slices.Clone(all)
	s := counted()
	for n := range len(all) + 1 {
		// The rest of the list is spare capacity, which doesn't count.
		l := all[:n]
		wantPlain(t, s, 3, l)
		Fold(s, l)
		Mount(s, 3, l)
		Mount(s, -1, l)
		if !slices.Equal(all, before) || s != counted() {
			t.Fatalf("%v and %v were changed to %v and %v", counted(), before, s, all)
		}
	}
}
