package heap

import (
	"fmt"
	"math"
	"slices"
	"testing"

	"flintstore/api"
)

// plainLess is the chapter's order: by Wear and, for equal Wear, by Id.
func plainLess(a, b api.Worn) bool {
	return a.Wear < b.Wear || a.Wear == b.Wear && a.Id < b.Id
}

// plainRight looks from each parent to its children, not the other way round.
func plainRight(l []api.Worn) bool {
	for k := range l {
		for _, child := range plainChildren(l, k) {
			if plainLess(l[child], l[k]) {
				return false
			}
		}
	}
	return true
}

// plainChildren returns the indices whose parent is k.
func plainChildren(l []api.Worn, k int) []int {
	var children []int
	for child := 2 * k; child <= 2*k+3; child++ {
		if child > 0 && child < len(l) && (child-1)/2 == k {
			children = append(children, child)
		}
	}
	return children
}

// plainPush inserts w into the elements from the first one to the new place,
// which are in order, behind those that are not greater.
func plainPush(l []api.Worn, w api.Worn) ([]api.Worn, api.Errno) {
	if !plainRight(l) {
		return nil, api.ErrForm
	}
	if len(l) >= 4096 {
		return nil, api.ErrFull
	}
	way := []int{len(l)}
	for way[0] > 0 {
		way = append([]int{(way[0] - 1) / 2}, way...)
	}
	elements := []api.Worn{}
	for _, k := range way[:len(way)-1] {
		elements = append(elements, l[k])
	}
	behind := 0
	for behind < len(elements) && !plainLess(w, elements[behind]) {
		behind++
	}
	elements = slices.Insert(elements, behind, w)
	pushed := append(slices.Clone(l), w)
	for i, k := range way {
		pushed[k] = elements[i]
	}
	return pushed, api.OK
}

// plainDown moves up each element on the way of smaller children that is less
// than the one at index k, which takes the last place left.
func plainDown(l []api.Worn, k int) []api.Worn {
	moved, w := slices.Clone(l), l[k]
	for {
		children := plainChildren(l, k)
		if len(children) == 0 {
			break
		}
		child := children[0]
		if len(children) == 2 && plainLess(l[children[1]], l[child]) {
			child = children[1]
		}
		if !plainLess(l[child], w) {
			break
		}
		moved[k] = l[child]
		k = child
	}
	moved[k] = w
	return moved
}

// plainPop is the chapter's definition of Pop.
func plainPop(l []api.Worn) ([]api.Worn, api.Worn, api.Errno) {
	switch {
	case !plainRight(l):
		return nil, api.Worn{}, api.ErrForm
	case len(l) == 0:
		return nil, api.Worn{}, api.ErrNone
	case len(l) == 1:
		return nil, l[0], api.OK
	}
	rest := append([]api.Worn{l[len(l)-1]}, l[1:len(l)-1]...)
	return plainDown(rest, 0), l[0], api.OK
}

// plainMake is the chapter's definition of Make.
func plainMake(l []api.Worn) []api.Worn {
	made := slices.Clone(l)
	for k := len(l) - 1; k >= 0; k-- {
		if len(plainChildren(l, k)) > 0 {
			made = plainDown(made, k)
		}
	}
	return made
}

// plainSorted inserts one element after the other.
func plainSorted(l []api.Worn) []api.Worn {
	var sorted []api.Worn
	for _, w := range l {
		k := 0
		for k < len(sorted) && plainLess(sorted[k], w) {
			k++
		}
		sorted = slices.Insert(sorted, k, w)
	}
	return sorted
}

func wantRight(t *testing.T, l []api.Worn, want bool) {
	t.Helper()
	if got := Right(l); got != want {
		t.Errorf("Right(%s) is %v", shortened(l), got)
	}
}

func wantPush(t *testing.T, l []api.Worn, w api.Worn, want []api.Worn, wantErr api.Errno) {
	t.Helper()
	got, err := Push(l, w)
	if !slices.Equal(got, want) || err != wantErr {
		t.Errorf("Push(%s, %v) is %s and %d, not %s and %d", shortened(l), w, shortened(got), err, shortened(want), wantErr)
	}
}

func wantPop(t *testing.T, l, want []api.Worn, wantFirst api.Worn, wantErr api.Errno) {
	t.Helper()
	got, first, err := Pop(l)
	if !slices.Equal(got, want) || first != wantFirst || err != wantErr {
		t.Errorf("Pop(%s) is %s, %v and %d, not %s, %v and %d", shortened(l), shortened(got), first, err, shortened(want), wantFirst, wantErr)
	}
}

func wantMake(t *testing.T, l, want []api.Worn) {
	t.Helper()
	if got := Make(l); !slices.Equal(got, want) {
		t.Errorf("Make(%s) is %s, not %s", shortened(l), shortened(got), shortened(want))
	}
}

func wantSorted(t *testing.T, l, want []api.Worn) {
	t.Helper()
	if got := Sorted(l); !slices.Equal(got, want) {
		t.Errorf("Sorted(%s) is %s, not %s", shortened(l), shortened(got), shortened(want))
	}
}

// wantPlain checks all functions with the argument w against the chapter.
func wantPlain(t *testing.T, l []api.Worn, w api.Worn) {
	t.Helper()
	wantRight(t, l, plainRight(l))
	pushed, err := plainPush(l, w)
	wantPush(t, l, w, pushed, err)
	popped, first, err := plainPop(l)
	wantPop(t, l, popped, first, err)
	wantMake(t, l, plainMake(l))
	wantSorted(t, l, plainSorted(l))
}

// someWorn returns blocks of small, negative and extreme numbers, whose
// differences may wrap around.
func someWorn() []api.Worn {
	numbers := []int{math.MinInt, math.MinInt + 1, -1 << 32, -1, 0, 1, 2, 1 << 32, math.MaxInt - 1, math.MaxInt}
	var l []api.Worn
	for _, id := range numbers {
		for _, wear := range numbers {
			l = append(l, api.Worn{Id: id, Wear: wear})
		}
	}
	return l
}

// smallLists returns all lists of up to 6 elements that differ in Wear, in Id,
// in both or not at all.
func smallLists() [][]api.Worn {
	lists := [][]api.Worn{nil}
	for i := 0; len(lists[i]) < 6; i++ {
		for id := range 2 {
			for wear := range 2 {
				lists = append(lists, append(slices.Clone(lists[i]), api.Worn{Id: 1 - id, Wear: wear}))
			}
		}
	}
	return lists
}

// mixed returns count elements in no order, of Ids and Wears below the bounds.
func mixed(count, ids, wears int) []api.Worn {
	var l []api.Worn
	x := uint64(count*ids + wears)
	for range count {
		x = x*6364136223846793005 + 1442695040888963407
		l = append(l, api.Worn{Id: int(x >> 33 % uint64(ids)), Wear: int(x >> 47 % uint64(wears))})
	}
	return l
}

// mixedLists returns lists of several levels, with few and many equal elements.
func mixedLists() [][]api.Worn {
	var lists [][]api.Worn
	for count := range 130 {
		lists = append(lists, mixed(count, 1, 3), mixed(count, 3, 1), mixed(count, 3, 3), mixed(count, 1000, 1000))
	}
	return lists
}

// rising returns count elements in order.
func rising(count int) []api.Worn {
	l := make([]api.Worn, count)
	for k := range l {
		l[k] = api.Worn{Id: k, Wear: k / 2}
	}
	return l
}

// ofWears returns blocks of these Wears, numbered in order.
func ofWears(wears ...int) []api.Worn {
	var l []api.Worn
	for id, wear := range wears {
		l = append(l, api.Worn{Id: id, Wear: wear})
	}
	return l
}

// pairs returns blocks of which the Ids equal the Wears.
func pairs(numbers ...int) []api.Worn {
	var l []api.Worn
	for _, n := range numbers {
		l = append(l, api.Worn{Id: n, Wear: n})
	}
	return l
}

// shortened tells the elements of l, or how many there are.
func shortened(l []api.Worn) string {
	if len(l) > 20 {
		return fmt.Sprintf("[%d elements]", len(l))
	}
	return fmt.Sprint(l)
}

// Wear counts first, then Id, also where a difference would wrap around.
func TestOrder(t *testing.T) {
	for _, a := range someWorn() {
		for _, b := range someWorn() {
			l := []api.Worn{a, b}
			wantRight(t, l, !plainLess(b, a))
			least, most := a, b
			if plainLess(b, a) {
				least, most = b, a
			}
			ordered := []api.Worn{least, most}
			wantPush(t, l[:1], b, ordered, api.OK)
			wantMake(t, l, ordered)
			wantSorted(t, l, ordered)
		}
	}
}

func TestRightKnownLists(t *testing.T) {
	for _, l := range [][]api.Worn{
		nil, {}, pairs(5), pairs(1, 1), pairs(1, 2), pairs(1, 2, 2), pairs(1, 3, 2), pairs(1, 3, 2, 3, 4, 2),
		pairs(1, 5, 2, 6, 7, 3, 4), {{Id: 9, Wear: 0}, {Id: 0, Wear: 1}}, {{Id: 0, Wear: 1}, {Id: 1, Wear: 1}},
		{{Id: -1, Wear: -1}, {Id: 0, Wear: -1}, {Id: -2, Wear: 0}},
	} {
		wantRight(t, l, true)
	}
	for _, l := range [][]api.Worn{
		pairs(2, 1), pairs(1, 2, 0), pairs(1, 0, 2), pairs(1, 3, 2, 2), pairs(1, 3, 2, 3, 2), pairs(1, 3, 2, 3, 4, 1),
		pairs(1, 3, 2, 3, 4, 2, 1), {{Id: 0, Wear: 1}, {Id: 9, Wear: 0}}, {{Id: 1, Wear: 1}, {Id: 0, Wear: 1}},
	} {
		wantRight(t, l, false)
	}
}

// Each element of a long heap is compared with its parent, also beyond MaxText.
func TestRightLooksEverywhere(t *testing.T) {
	l := rising(5000)
	wantRight(t, l, true)
	for k := 1; k < len(l); k++ {
		w, above := l[k], l[(k-1)/2]
		l[k] = api.Worn{Id: above.Id - 1, Wear: above.Wear}
		wantRight(t, l, false)
		l[k] = api.Worn{Id: above.Id + 1, Wear: above.Wear - 1}
		wantRight(t, l, false)
		l[k] = w
	}
	wantRight(t, l, true)
}

func TestPushKnownHeaps(t *testing.T) {
	wantPush(t, nil, api.Worn{Id: 3, Wear: 5}, []api.Worn{{Id: 3, Wear: 5}}, api.OK)
	wantPush(t, []api.Worn{}, api.Worn{}, []api.Worn{{}}, api.OK)
	wantPush(t, pairs(1), pairs(2)[0], pairs(1, 2), api.OK)
	wantPush(t, pairs(2), pairs(1)[0], pairs(1, 2), api.OK)
	l := pairs(1, 5, 2, 6, 7, 3, 4)
	wantPush(t, l, pairs(0)[0], pairs(0, 1, 2, 5, 7, 3, 4, 6), api.OK)
	wantPush(t, l, pairs(1)[0], pairs(1, 1, 2, 5, 7, 3, 4, 6), api.OK)
	wantPush(t, l, pairs(4)[0], pairs(1, 4, 2, 5, 7, 3, 4, 6), api.OK)
	wantPush(t, l, pairs(5)[0], pairs(1, 5, 2, 5, 7, 3, 4, 6), api.OK)
	wantPush(t, l, pairs(6)[0], pairs(1, 5, 2, 6, 7, 3, 4, 6), api.OK)
	wantPush(t, l, pairs(9)[0], pairs(1, 5, 2, 6, 7, 3, 4, 9), api.OK)
	wantPush(t, []api.Worn{{Id: 2, Wear: 1}}, api.Worn{Id: 1, Wear: 1}, []api.Worn{{Id: 1, Wear: 1}, {Id: 2, Wear: 1}}, api.OK)
}

func TestPushOntoNoHeap(t *testing.T) {
	for _, l := range [][]api.Worn{pairs(2, 1), pairs(1, 3, 2, 3, 2), append(rising(4095), api.Worn{}), append(rising(4096), api.Worn{})} {
		for _, w := range someWorn() {
			wantPush(t, l, w, nil, api.ErrForm)
		}
	}
}

func TestPushUntilFull(t *testing.T) {
	low, high := api.Worn{Id: -1, Wear: -1}, api.Worn{Id: math.MaxInt, Wear: math.MaxInt}
	l := rising(4095)
	wantPush(t, l, high, append(slices.Clone(l), high), api.OK)
	pushed, err := plainPush(l, low)
	wantPush(t, l, low, pushed, err)
	if len(pushed) != 4096 {
		t.Fatalf("%d elements are expected", len(pushed))
	}
	for _, full := range [][]api.Worn{rising(4096), pushed, rising(4097), rising(5000), make([]api.Worn, 4096)} {
		wantPush(t, full, low, nil, api.ErrFull)
		wantPush(t, full, high, nil, api.ErrFull)
	}
}

func TestPopKnownHeaps(t *testing.T) {
	wantPop(t, pairs(7), nil, pairs(7)[0], api.OK)
	wantPop(t, pairs(7, 8), pairs(8), pairs(7)[0], api.OK)
	wantPop(t, pairs(1, 3, 2), pairs(2, 3), pairs(1)[0], api.OK)
	wantPop(t, pairs(1, 2, 3), pairs(2, 3), pairs(1)[0], api.OK)
	wantPop(t, pairs(1, 5, 2, 6, 7, 3, 4), pairs(2, 5, 3, 6, 7, 4), pairs(1)[0], api.OK)
	wantPop(t, pairs(1, 2, 5, 6, 3, 7), pairs(2, 3, 5, 6, 7), pairs(1)[0], api.OK)
	wantPop(t, pairs(1, 1, 1, 1), pairs(1, 1, 1), pairs(1)[0], api.OK)
	wantPop(t, []api.Worn{{Id: 1, Wear: 4}, {Id: 2, Wear: 4}, {Id: 3, Wear: 4}}, []api.Worn{{Id: 2, Wear: 4}, {Id: 3, Wear: 4}}, api.Worn{Id: 1, Wear: 4}, api.OK)
}

// The element stays where it is not greater than both children, and goes to
// the first of two equal children, as what lies below them shows.
func TestPopAmongEqualChildren(t *testing.T) {
	wantPop(t, pairs(0, 1, 1, 5, 6, 7), pairs(1, 5, 1, 7, 6), pairs(0)[0], api.OK)
	wantPop(t, pairs(0, 1, 1, 5, 6, 7, 8), pairs(1, 5, 1, 8, 6, 7), pairs(0)[0], api.OK)
	wantPop(t, pairs(0, 1, 1, 1, 1, 5, 6), pairs(1, 1, 1, 6, 1, 5), pairs(0)[0], api.OK)
	wantMake(t, pairs(9, 1, 1, 5, 6, 7), pairs(1, 5, 1, 9, 6, 7))
}

func TestPopErrors(t *testing.T) {
	wantPop(t, nil, nil, api.Worn{}, api.ErrNone)
	wantPop(t, []api.Worn{}, nil, api.Worn{}, api.ErrNone)
	for _, l := range [][]api.Worn{pairs(2, 1), pairs(1, 0, 2), pairs(1, 3, 2, 3, 2), append(rising(4096), api.Worn{})} {
		wantPop(t, l, nil, api.Worn{}, api.ErrForm)
	}
}

// The number of elements has no limit but for Push.
func TestLongLists(t *testing.T) {
	for _, count := range []int{4095, 4096, 4097, 5000} {
		l := mixed(count, 50, 60)
		made := plainMake(l)
		wantMake(t, l, made)
		wantSorted(t, l, plainSorted(l))
		wantRight(t, made, true)
		popped, first, err := plainPop(made)
		wantPop(t, made, popped, first, err)
	}
}

func TestMakeKnownLists(t *testing.T) {
	wantMake(t, nil, nil)
	wantMake(t, []api.Worn{}, nil)
	wantMake(t, pairs(4), pairs(4))
	wantMake(t, pairs(2, 1), pairs(1, 2))
	wantMake(t, pairs(3, 2, 1), pairs(1, 2, 3))
	wantMake(t, pairs(7, 6, 5, 4, 3, 2, 1), pairs(1, 3, 2, 4, 6, 7, 5))
	wantMake(t, pairs(1, 5, 2, 6, 7, 3, 4), pairs(1, 5, 2, 6, 7, 3, 4))
	// Pushed one by one, these would be 1 2 5 4 3 and 1 2 4 5 3.
	wantMake(t, pairs(4, 3, 5, 1, 2), pairs(1, 2, 5, 3, 4))
	wantMake(t, pairs(5, 4, 3, 2, 1), pairs(1, 2, 3, 5, 4))
}

func TestSortedKnownLists(t *testing.T) {
	wantSorted(t, nil, nil)
	wantSorted(t, []api.Worn{}, nil)
	wantSorted(t, pairs(4), pairs(4))
	wantSorted(t, pairs(3, 1, 2, 1), pairs(1, 1, 2, 3))
	wantSorted(t, ofWears(5, 5, 1, 7, 0, -3, 1),
		[]api.Worn{{Id: 5, Wear: -3}, {Id: 4, Wear: 0}, {Id: 2, Wear: 1}, {Id: 6, Wear: 1}, {Id: 0, Wear: 5}, {Id: 1, Wear: 5}, {Id: 3, Wear: 7}})
}

func TestSmallListsFollowTheChapter(t *testing.T) {
	for _, l := range smallLists() {
		for _, w := range []api.Worn{{Id: 0, Wear: 0}, {Id: 1, Wear: 0}, {Id: 0, Wear: 1}, {Id: 1, Wear: 1}, {Id: 5, Wear: -1}, {Id: -5, Wear: 2}} {
			wantPlain(t, l, w)
		}
	}
}

func TestMixedListsFollowTheChapter(t *testing.T) {
	for _, l := range mixedLists() {
		for _, w := range slices.Concat(mixed(5, 3, 3), pairs(-1, 0, 500, 1000)) {
			wantPlain(t, l, w)
			wantPlain(t, plainMake(l), w)
		}
	}
	extreme := someWorn()
	for count := range len(extreme) {
		wantPlain(t, extreme[:count], extreme[count])
		wantPlain(t, plainMake(extreme[:count]), extreme[count])
	}
}

// The heap yields the minimum: whatever comes into it comes out in order.
func TestHeapYieldsTheMinimum(t *testing.T) {
	for _, l := range append(mixedLists(), someWorn()) {
		made, pushed := Make(l), []api.Worn(nil)
		for _, w := range l {
			pushed, _ = Push(pushed, w)
			wantRight(t, pushed, true)
		}
		for _, want := range Sorted(l) {
			var first, second api.Worn
			made, first, _ = Pop(made)
			pushed, second, _ = Pop(pushed)
			if first != want || second != want {
				t.Fatalf("of %s come %v and %v, not %v", shortened(l), first, second, want)
			}
			wantRight(t, made, true)
			wantRight(t, pushed, true)
		}
		wantPop(t, made, nil, api.Worn{}, api.ErrNone)
		wantPop(t, pushed, nil, api.Worn{}, api.ErrNone)
	}
}

// within returns l as a slice with spare capacity, and the memory around it.
func within(l []api.Worn, spare api.Worn) ([]api.Worn, []api.Worn) {
	outside := slices.Repeat([]api.Worn{spare}, 4)
	around := slices.Concat(outside, l, outside)
	return around[4 : 4+len(l)], around
}

// The spare capacity holds what would change the results if it were read.
func TestArgumentsStayAsTheyAre(t *testing.T) {
	for _, l := range append(smallLists(), mixedLists()...) {
		for _, spare := range []api.Worn{{Id: -7, Wear: -7}, {Id: 7777, Wear: 7777}} {
			arg, around := within(l, spare)
			before := slices.Clone(around)
			wantPlain(t, arg, api.Worn{Id: 0, Wear: 0})
			wantPlain(t, arg, api.Worn{Id: 2, Wear: 2})
			if !slices.Equal(around, before) {
				t.Fatalf("an argument %s is changed", shortened(l))
			}
		}
	}
}

func TestResultsAreNewMemory(t *testing.T) {
	for _, l := range append(smallLists(), mixedLists()...) {
		for name, result := range map[string]func([]api.Worn) []api.Worn{
			"Push":   func(l []api.Worn) []api.Worn { x, _ := Push(l, api.Worn{Id: 9, Wear: 9}); return x },
			"Pop":    func(l []api.Worn) []api.Worn { x, _, _ := Pop(l); return x },
			"Make":   Make,
			"Sorted": Sorted,
		} {
			arg, around := within(l, api.Worn{Id: 77, Wear: 77})
			got := result(arg)
			want, before := slices.Clone(got), slices.Clone(around)
			clear(got[:cap(got)])
			if !slices.Equal(around, before) {
				t.Errorf("the argument of %s(%s) changes with the result", name, shortened(l))
			}
			copy(got, want)
			clear(around)
			if !slices.Equal(got, want) {
				t.Errorf("what %s(%s) returned changes with its argument", name, shortened(l))
			}
		}
	}
}
