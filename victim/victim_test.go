package victim

import (
	"fmt"
	"math"
	"slices"
	"testing"

	"flintstore/api"
)

const (
	pages    = 4
	maxText  = 4096
	maxWear  = 1 << 20
	maxTimes = 400
)

// plainRight looks for the numbers that the chapter rules out.
func plainRight(l []api.Fill) bool {
	wrong := func(b api.Fill) bool {
		return b.Done < 0 || b.Done > pages || b.Needed < 0 || b.Needed > b.Done || b.Wear < 0 || b.Wear > maxWear
	}
	return len(l) < maxText+1 && !slices.ContainsFunc(l, wrong)
}

// plainLeast returns the smallest Wear.
func plainLeast(l []api.Fill) int {
	least := maxWear
	for _, b := range l {
		least = min(least, b.Wear)
	}
	return least
}

// plainSpread looks at all pairs of Wears that are neighbours in order, so it
// adds up differences and needs neither the largest nor the smallest one.
func plainSpread(l []api.Fill) int {
	var wears []int
	for _, b := range l {
		wears = append(wears, b.Wear)
	}
	slices.Sort(wears)
	sum := 0
	for k := 1; k < len(wears); k++ {
		sum += wears[k] - wears[k-1]
	}
	return sum
}

// plainGreedy narrows the indices down, one rule of the chapter after another.
func plainGreedy(l []api.Fill, spread int) (int, api.Errno) {
	if !plainRight(l) {
		return 0, api.ErrForm
	}
	if spread < 1 || spread > maxWear {
		return 0, api.ErrRange
	}
	least := plainLeast(l)
	var left []int
	for k, b := range l {
		if b.Done == pages && b.Wear-least < spread {
			left = append(left, k)
		}
	}
	if len(left) == 0 {
		return 0, api.ErrNone
	}
	left = withLeast(left, func(k int) int { return l[k].Needed })
	left = withLeast(left, func(k int) int { return l[k].Wear })
	return left[0], api.OK
}

// withLeast returns the indices for which the number is the smallest.
func withLeast(indices []int, number func(int) int) []int {
	least := math.MaxInt
	for _, k := range indices {
		least = min(least, number(k))
	}
	var left []int
	for _, k := range indices {
		if number(k) == least {
			left = append(left, k)
		}
	}
	return left
}

// plainPlay is the chapter's definition of Play.
func plainPlay(l []api.Fill, spread, times int) ([]int, []api.Fill, api.Errno) {
	_, err := plainGreedy(l, spread)
	if err == api.ErrForm || err == api.ErrRange {
		return nil, nil, err
	}
	if times < 0 || times > maxTimes {
		return nil, nil, api.ErrRange
	}
	var chosen []int
	left := slices.Clone(l)
	for len(chosen) < times {
		k, err := plainGreedy(left, spread)
		if err != api.OK || left[k].Wear == maxWear {
			break
		}
		left[k].Needed = 0
		left[k].Done = pages
		left[k].Wear++
		chosen = append(chosen, k)
	}
	return chosen, left, api.OK
}

func wantRight(t *testing.T, l []api.Fill, want bool) {
	t.Helper()
	if got := Right(l); got != want {
		t.Errorf("Right(%s) is %v", shortened(l), got)
	}
}

func wantGreedy(t *testing.T, l []api.Fill, spread, want int, wantErr api.Errno) {
	t.Helper()
	if got, err := Greedy(l, spread); got != want || err != wantErr {
		t.Errorf("Greedy(%s, %d) is %d and %d, not %d and %d", shortened(l), spread, got, err, want, wantErr)
	}
}

func wantSpread(t *testing.T, l []api.Fill, want int) {
	t.Helper()
	if got := Spread(l); got != want {
		t.Errorf("Spread(%s) is %d, not %d", shortened(l), got, want)
	}
}

func wantPlay(t *testing.T, l []api.Fill, spread, times int, want []int, wantLeft []api.Fill, wantErr api.Errno) {
	t.Helper()
	got, left, err := Play(l, spread, times)
	if !slices.Equal(got, want) || !slices.Equal(left, wantLeft) || err != wantErr {
		t.Errorf("Play(%s, %d, %d) is %s, %s and %d, not %s, %s and %d", shortened(l), spread, times,
			shortened(got), shortened(left), err, shortened(want), shortened(wantLeft), wantErr)
	}
}

// wantPlain checks all functions against the chapter.
func wantPlain(t *testing.T, l []api.Fill, spread, times int) {
	t.Helper()
	wantRight(t, l, plainRight(l))
	k, err := plainGreedy(l, spread)
	wantGreedy(t, l, spread, k, err)
	if plainRight(l) {
		wantSpread(t, l, plainSpread(l))
	}
	chosen, left, err := plainPlay(l, spread, times)
	wantPlay(t, l, spread, times, chosen, left, err)
}

// wantErrors checks the errors of both functions that have some.
func wantErrors(t *testing.T, l []api.Fill, spread, times int, greedy, play api.Errno) {
	t.Helper()
	wantGreedy(t, l, spread, 0, greedy)
	wantPlay(t, l, spread, times, nil, nil, play)
}

// shortened tells the elements of l, or how many there are.
func shortened[T any](l []T) string {
	if len(l) > 20 {
		return fmt.Sprintf("[%d elements]", len(l))
	}
	return fmt.Sprint(l)
}

// smallLists returns all lists of up to 3 blocks of which each one is full or
// not, and differs from another one in Needed, in Wear, in both or not at all.
func smallLists() [][]api.Fill {
	lists := [][]api.Fill{nil}
	for i := 0; len(lists[i]) < 3; i++ {
		for done := 3; done <= 4; done++ {
			for needed := range 3 {
				for wear := range 3 {
					lists = append(lists, append(slices.Clone(lists[i]), api.Fill{Needed: needed, Done: done, Wear: 5 + wear}))
				}
			}
		}
	}
	return lists
}

// mixed returns count blocks in no order, with Wears from least on.
func mixed(count, least, wears int) []api.Fill {
	var l []api.Fill
	x := uint64(count*wears + least)
	for range count {
		x = x*6364136223846793005 + 1442695040888963407
		done := 4 - int(x>>60%5)*int(x>>57%2)
		l = append(l, api.Fill{Needed: int(x >> 33 % uint64(done+1)), Done: done, Wear: least + int(x>>45%uint64(wears))})
	}
	return l
}

// mixedLists returns lists of more blocks, also of ones that are almost worn out.
func mixedLists() [][]api.Fill {
	var lists [][]api.Fill
	for count := range 40 {
		lists = append(lists, mixed(count, 0, 1), mixed(count, 0, 3), mixed(count, 7, 40),
			mixed(count, maxWear, 1), mixed(count, maxWear-2, 3), mixed(count, maxWear-39, 40), mixed(count, 0, maxWear+1))
	}
	return lists
}

// full returns full blocks of these Wears that need nothing.
func full(wears ...int) []api.Fill {
	var l []api.Fill
	for _, wear := range wears {
		l = append(l, api.Fill{Done: pages, Wear: wear})
	}
	return l
}

// wrongBlocks returns blocks of which one number is out of its bounds.
func wrongBlocks() []api.Fill {
	return []api.Fill{
		{Done: -1}, {Done: 5}, {Needed: 5, Done: 5}, {Needed: -1}, {Needed: -1, Done: 4}, {Needed: 1}, {Needed: 4, Done: 3}, {Needed: 5, Done: 4},
		{Done: -1, Needed: -1}, {Wear: -1}, {Done: 4, Wear: -1}, {Done: 4, Wear: maxWear + 1}, {Needed: 4, Done: 4, Wear: maxWear + 1},
		{Done: math.MinInt}, {Done: math.MaxInt}, {Done: 4, Needed: math.MinInt}, {Done: 4, Needed: math.MaxInt},
		{Done: 4, Wear: math.MinInt}, {Done: 4, Wear: math.MaxInt},
	}
}

// wrongLists returns lists that are not valid.
func wrongLists() [][]api.Fill {
	lists := [][]api.Fill{make([]api.Fill, maxText+1), slices.Repeat(full(1), maxText+1), make([]api.Fill, 5000)}
	for _, b := range wrongBlocks() {
		lists = append(lists, []api.Fill{b}, append(full(0, 1), b), append([]api.Fill{b}, full(0, 1)...), slices.Concat(full(0), []api.Fill{b, b}, full(1)))
	}
	return lists
}

// someSpreads returns valid spreads.
func someSpreads() []int {
	return []int{1, 2, 3, 4, 39, 40, 41, maxWear - 1, maxWear}
}

// wrongSpreads returns spreads that are not valid.
func wrongSpreads() []int {
	return []int{math.MinInt, -maxWear, -1, 0, maxWear + 1, math.MaxInt}
}

// wrongTimes returns times that are not valid.
func wrongTimes() []int {
	return []int{math.MinInt, -1, maxTimes + 1, maxTimes * 2, math.MaxInt}
}

func TestRightBounds(t *testing.T) {
	wantRight(t, nil, true)
	wantRight(t, []api.Fill{}, true)
	for done := 0; done <= pages; done++ {
		for needed := 0; needed <= done; needed++ {
			for _, wear := range []int{0, 1, maxWear - 1, maxWear} {
				wantRight(t, []api.Fill{{Needed: needed, Done: done, Wear: wear}}, true)
			}
		}
	}
	for _, l := range wrongLists() {
		wantRight(t, l, false)
	}
}

func TestRightFollowsTheChapter(t *testing.T) {
	numbers := []int{math.MinInt, -2, -1, 0, 1, 2, 3, 4, 5, 6, maxWear, maxWear + 1, math.MaxInt}
	for _, needed := range numbers {
		for _, done := range numbers {
			for _, wear := range numbers {
				l := []api.Fill{{Needed: needed, Done: done, Wear: wear}}
				wantRight(t, l, plainRight(l))
			}
		}
	}
}

// Each block of the longest list counts.
func TestRightLooksEverywhere(t *testing.T) {
	l := mixed(maxText, 0, maxWear+1)
	wantRight(t, l, true)
	wrong := wrongBlocks()
	for k, b := range l {
		l[k] = wrong[k%len(wrong)]
		wantRight(t, l, false)
		l[k] = b
	}
	wantRight(t, l, true)
	wantRight(t, append(l, api.Fill{}), false)
}

// The order is: the fewest needed pages, then the least wear, then the first.
func TestGreedyOrder(t *testing.T) {
	wantGreedy(t, full(0), 1, 0, api.OK)
	wantGreedy(t, []api.Fill{{Needed: 2, Done: 4}, {Needed: 1, Done: 4}, {Needed: 3, Done: 4}}, 1, 1, api.OK)
	wantGreedy(t, []api.Fill{{Needed: 4, Done: 4}, {Needed: 4, Done: 4}}, 1, 0, api.OK)
	wantGreedy(t, []api.Fill{{Needed: 2, Done: 4, Wear: 1}, {Needed: 1, Done: 4, Wear: 3}}, 9, 1, api.OK)
	wantGreedy(t, []api.Fill{{Needed: 1, Done: 4, Wear: 3}, {Needed: 1, Done: 4, Wear: 1}, {Needed: 1, Done: 4, Wear: 2}}, 9, 1, api.OK)
	wantGreedy(t, full(2, 1, 1), 9, 1, api.OK)
	wantGreedy(t, full(1, 1, 1), 9, 0, api.OK)
	wantGreedy(t, []api.Fill{{Needed: 1, Done: 4}, {Done: 4, Wear: 2}, {Done: 4, Wear: 1}, {Done: 4, Wear: 1}}, 9, 2, api.OK)
}

func TestGreedyChoosesFullBlocksOnly(t *testing.T) {
	wantGreedy(t, []api.Fill{{Needed: 0, Done: 3}, {Needed: 4, Done: 4}, {Needed: 0, Done: 0}}, 1, 1, api.OK)
	for done := range pages {
		wantGreedy(t, []api.Fill{{Done: done}}, maxWear, 0, api.ErrNone)
		wantGreedy(t, []api.Fill{{Done: done}, {Done: done, Needed: done}}, 1, 0, api.ErrNone)
	}
	for _, spread := range someSpreads() {
		wantGreedy(t, nil, spread, 0, api.ErrNone)
		wantGreedy(t, []api.Fill{}, spread, 0, api.ErrNone)
	}
}

// A block that is worn by spread more than the least worn one isn't chosen,
// and the least worn one counts even if it isn't full.
func TestGreedyKeepsWithinTheSpread(t *testing.T) {
	l := []api.Fill{{Needed: 4, Done: 4, Wear: 10}, {Needed: 3, Done: 4, Wear: 11}, {Needed: 2, Done: 4, Wear: 15}}
	for spread, want := range map[int]int{1: 0, 2: 1, 5: 1, 6: 2, maxWear: 2} {
		wantGreedy(t, l, spread, want, api.OK)
	}
	l = []api.Fill{{Done: 4, Wear: 9}, {Done: 3}}
	for _, spread := range []int{1, 8, 9} {
		wantGreedy(t, l, spread, 0, api.ErrNone)
	}
	wantGreedy(t, l, 10, 0, api.OK)
	wantGreedy(t, []api.Fill{{}, {Done: 4, Wear: maxWear}}, maxWear, 0, api.ErrNone)
	wantGreedy(t, []api.Fill{{Wear: 1}, {Done: 4, Wear: maxWear}}, maxWear, 1, api.OK)
	wantGreedy(t, []api.Fill{{Wear: 1}, {Done: 4, Wear: maxWear}}, maxWear-1, 0, api.ErrNone)
	wantGreedy(t, full(maxWear), 1, 0, api.OK)
}

func TestSpreadKnownLists(t *testing.T) {
	wantSpread(t, nil, 0)
	wantSpread(t, []api.Fill{}, 0)
	wantSpread(t, full(7), 0)
	wantSpread(t, full(7, 7), 0)
	wantSpread(t, full(3, 9, 5), 6)
	wantSpread(t, full(9, 5, 3), 6)
	wantSpread(t, full(5, 3, 9, 4), 6)
	wantSpread(t, full(0, maxWear), maxWear)
	// Blocks that are not full count as well.
	wantSpread(t, []api.Fill{{Done: 1, Wear: 2}, {Done: 4, Wear: 5}, {Wear: 8}}, 6)
}

// What Spread returns of such lists is not specified, but it returns.
func TestSpreadOfWrongLists(t *testing.T) {
	for _, l := range wrongLists() {
		Spread(l)
	}
}

func TestPlayKnownLists(t *testing.T) {
	wantPlay(t, nil, 1, 9, nil, nil, api.OK)
	wantPlay(t, []api.Fill{}, 1, 0, nil, nil, api.OK)
	wantPlay(t, full(2), 1, 3, []int{0, 0, 0}, full(5), api.OK)
	wantPlay(t, full(2, 1, 1), 1, 5, []int{1, 2, 0, 1, 2}, full(3, 3, 3), api.OK)
	wantPlay(t, []api.Fill{{Needed: 2, Done: 4}, {Needed: 1, Done: 4}}, 2, 5, []int{1, 1, 0, 0, 0}, full(3, 2), api.OK)
	wantPlay(t, []api.Fill{{Needed: 2, Done: 4}, {Needed: 1, Done: 4}}, 1, 3, []int{1, 0, 0}, full(2, 1), api.OK)
	wantPlay(t, []api.Fill{{Needed: 2, Done: 4}, {Needed: 1, Done: 4}}, 9, 3, []int{1, 1, 1}, []api.Fill{{Needed: 2, Done: 4}, {Done: 4, Wear: 3}}, api.OK)
}

// The erased block is full, of pages that are not needed, and one erasure older.
func TestPlayChangesTheChosenBlock(t *testing.T) {
	for needed := 0; needed <= pages; needed++ {
		l := []api.Fill{{Needed: 1, Done: 3, Wear: 6}, {Needed: needed, Done: 4, Wear: 6}, {Needed: 2, Done: 2, Wear: 9}}
		wantPlay(t, l, 1, 1, []int{1}, []api.Fill{l[0], {Done: 4, Wear: 7}, l[2]}, api.OK)
		wantPlay(t, l, 1, 0, nil, l, api.OK)
	}
}

func TestPlayStopsWithoutBlock(t *testing.T) {
	l := []api.Fill{{Needed: 3, Done: 3}, {Needed: 2, Done: 4, Wear: 1}}
	wantPlay(t, l, 1, 9, nil, l, api.OK)
	wantPlay(t, l, 2, 9, []int{1}, []api.Fill{l[0], {Done: 4, Wear: 2}}, api.OK)
	wantPlay(t, l, 5, 9, []int{1, 1, 1, 1}, []api.Fill{l[0], {Done: 4, Wear: 5}}, api.OK)
	wantPlay(t, l, 10, 9, slices.Repeat([]int{1}, 9), []api.Fill{l[0], {Done: 4, Wear: 10}}, api.OK)
	wantPlay(t, []api.Fill{{}, {Done: 3}}, maxWear, 9, nil, []api.Fill{{}, {Done: 3}}, api.OK)
}

// A chosen block that is worn out ends it, even if another one is left.
func TestPlayStopsAtMaxWear(t *testing.T) {
	wantPlay(t, full(maxWear), 1, 9, nil, full(maxWear), api.OK)
	wantPlay(t, full(maxWear-1), 1, 9, []int{0}, full(maxWear), api.OK)
	wantPlay(t, full(maxWear-2, maxWear-1), 1, 9, []int{0, 0, 1}, full(maxWear, maxWear), api.OK)
	l := []api.Fill{{Needed: 4, Done: 4, Wear: maxWear}}
	wantPlay(t, l, 1, 9, nil, l, api.OK)
	l = []api.Fill{{Needed: 1, Done: 4, Wear: 5}, {Needed: 0, Done: 4, Wear: maxWear}}
	wantPlay(t, l, maxWear, 9, nil, l, api.OK)
	l[1].Wear--
	wantPlay(t, l, maxWear, 9, []int{1}, []api.Fill{l[0], {Done: 4, Wear: maxWear}}, api.OK)
}

func TestPlayBoundsOfTimes(t *testing.T) {
	l := full(0, 0)
	for _, times := range []int{0, 1, maxTimes - 1, maxTimes} {
		chosen, left, _ := plainPlay(l, 1, times)
		if len(chosen) != times {
			t.Fatalf("%d choices are expected, not %d", times, len(chosen))
		}
		wantPlay(t, l, 1, times, chosen, left, api.OK)
	}
	for _, times := range wrongTimes() {
		wantErrors(t, []api.Fill{{}}, 1, times, api.ErrNone, api.ErrRange)
		wantPlay(t, l, 1, times, nil, nil, api.ErrRange)
		wantPlay(t, nil, 1, times, nil, nil, api.ErrRange)
	}
}

// A spread out of its bounds comes before the lack of blocks and the times.
func TestErrorsOfSpread(t *testing.T) {
	for _, spread := range wrongSpreads() {
		for _, l := range [][]api.Fill{nil, {}, {{}}, full(0), full(3, 1, 2), full(maxWear)} {
			for _, times := range append(wrongTimes(), 0, 1, maxTimes) {
				wantErrors(t, l, spread, times, api.ErrRange, api.ErrRange)
			}
		}
	}
}

// An invalid list is the first error, whatever the other arguments are.
func TestErrorsOfWrongLists(t *testing.T) {
	for _, l := range wrongLists() {
		for _, spread := range append(wrongSpreads(), someSpreads()...) {
			for _, times := range append(wrongTimes(), 0, 1, maxTimes) {
				wantErrors(t, l, spread, times, api.ErrForm, api.ErrForm)
			}
		}
	}
}

func TestSmallListsFollowTheChapter(t *testing.T) {
	for _, l := range smallLists() {
		for _, spread := range []int{1, 2, 3, maxWear} {
			wantPlain(t, l, spread, 7)
		}
	}
}

func TestMixedListsFollowTheChapter(t *testing.T) {
	for _, l := range mixedLists() {
		for _, spread := range someSpreads() {
			wantPlain(t, l, spread, 60)
		}
	}
}

func TestLongListsFollowTheChapter(t *testing.T) {
	for _, count := range []int{maxText - 1, maxText, maxText + 1} {
		for _, wears := range []int{1, 3, maxWear + 1} {
			wantPlain(t, mixed(count, 0, wears), 3, 20)
		}
	}
	// The best block is the last one.
	l := append(slices.Repeat([]api.Fill{{Needed: 1, Done: 4}}, maxText-1), full(0)...)
	wantGreedy(t, l, 1, maxText-1, api.OK)
}

// Wear is level: what Play erases never gets further ahead than spread.
func TestWearIsLevel(t *testing.T) {
	for _, l := range append(smallLists(), mixedLists()...) {
		for _, spread := range []int{1, 2, 3, 40} {
			chosen, left, err := Play(l, spread, maxTimes)
			if got, most := Spread(left), max(Spread(l), spread); err != api.OK || got > most {
				t.Errorf("Play(%s, %d, %d) leaves a spread of %d", shortened(l), spread, maxTimes, got)
			}
			erased := 0
			for k := range l {
				erased += left[k].Wear - l[k].Wear
			}
			if erased != len(chosen) {
				t.Errorf("Play(%s, %d, %d) erases %d times, not %d", shortened(l), spread, maxTimes, erased, len(chosen))
			}
		}
	}
}

// Play goes on where it ended.
func TestPlayInParts(t *testing.T) {
	for _, l := range mixedLists() {
		chosen, left, _ := Play(l, 3, 50)
		for first := range 51 {
			begun, middle, _ := Play(l, 3, first)
			wantPlay(t, middle, 3, 50-first, chosen[len(begun):], left, api.OK)
		}
	}
}

// within returns l as a slice with spare capacity, and the memory around it.
func within(l []api.Fill, spare api.Fill) ([]api.Fill, []api.Fill) {
	outside := slices.Repeat([]api.Fill{spare}, 4)
	around := slices.Concat(outside, l, outside)
	return around[4 : 4+len(l)], around
}

// The spare capacity holds what would change the results if it were read.
func TestArgumentsStayAsTheyAre(t *testing.T) {
	for _, l := range slices.Concat(smallLists(), mixedLists(), wrongLists()) {
		for _, spare := range []api.Fill{{Done: 4}, {Done: -7, Wear: -7}} {
			arg, around := within(l, spare)
			before := slices.Clone(around)
			wantPlain(t, arg, 2, 5)
			if !slices.Equal(around, before) {
				t.Fatalf("an argument %s is changed", shortened(l))
			}
		}
	}
}

func TestResultsAreNewMemory(t *testing.T) {
	for _, l := range append(smallLists(), mixedLists()...) {
		for _, times := range []int{0, 5} {
			arg, around := within(l, api.Fill{Done: 4})
			_, left, _ := Play(arg, 2, times)
			want, before := slices.Clone(left), slices.Clone(around)
			clear(left[:cap(left)])
			if !slices.Equal(around, before) {
				t.Errorf("the argument of Play(%s, 2, %d) changes with the result", shortened(l), times)
			}
			copy(left, want)
			clear(around)
			if !slices.Equal(left, want) {
				t.Errorf("what Play(%s, 2, %d) returned changes with its argument", shortened(l), times)
			}
		}
	}
}
