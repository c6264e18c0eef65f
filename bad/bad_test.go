package bad

import (
	"fmt"
	"math"
	"slices"
	"testing"

	"flintstore/api"
)

// blockList is a number of blocks, and which of them are said to be bad.
type blockList struct {
	blocks int
	bad    []int
}

// plainRight is the chapter's definition.
func plainRight(l blockList) bool {
	if l.blocks < 0 || l.blocks > 4096 {
		return false
	}
	for i, b := range l.bad {
		if b < 0 || b > l.blocks-1 {
			return false
		}
		if i > 0 && l.bad[i-1] >= b {
			return false
		}
	}
	return true
}

// plainGood returns the good blocks of a valid list, block by block, so that
// the tests do not share the program's way of counting.
func plainGood(l blockList) []int {
	var good []int
	for b := range l.blocks {
		if !slices.Contains(l.bad, b) {
			good = append(good, b)
		}
	}
	return good
}

// plainFind is the chapter's definition of Find.
func plainFind(l blockList, n int) (int, api.Errno) {
	if !plainRight(l) {
		return 0, api.ErrForm
	}
	good := plainGood(l)
	if n < 0 || n >= len(good) {
		return 0, api.ErrNone
	}
	return good[n], api.OK
}

// plainNumber is the chapter's definition of Number.
func plainNumber(l blockList, block int) (int, api.Errno) {
	switch {
	case !plainRight(l):
		return 0, api.ErrForm
	case block < 0 || block > l.blocks-1:
		return 0, api.ErrRange
	case slices.Contains(l.bad, block):
		return 0, api.ErrDead
	}
	before := 0
	for _, b := range plainGood(l) {
		if b < block {
			before++
		}
	}
	return before, api.OK
}

// plainMark is the chapter's definition of Mark.
func plainMark(l blockList, block int) ([]int, api.Errno) {
	switch {
	case !plainRight(l):
		return nil, api.ErrForm
	case block < 0 || block > l.blocks-1:
		return nil, api.ErrRange
	case slices.Contains(l.bad, block):
		return nil, api.ErrHeld
	}
	var marked []int
	for b := range l.blocks {
		if b == block || slices.Contains(l.bad, b) {
			marked = append(marked, b)
		}
	}
	return marked, api.OK
}

func wantRight(t *testing.T, l blockList, want bool) {
	t.Helper()
	if got := Right(l.blocks, l.bad); got != want {
		t.Errorf("Right(%s) is %v", l.told(), got)
	}
}

func wantFind(t *testing.T, l blockList, n, want int, wantErr api.Errno) {
	t.Helper()
	if got, err := Find(l.blocks, l.bad, n); got != want || err != wantErr {
		t.Errorf("Find(%s, %d) is %d and %d, not %d and %d", l.told(), n, got, err, want, wantErr)
	}
}

func wantNumber(t *testing.T, l blockList, block, want int, wantErr api.Errno) {
	t.Helper()
	if got, err := Number(l.blocks, l.bad, block); got != want || err != wantErr {
		t.Errorf("Number(%s, %d) is %d and %d, not %d and %d", l.told(), block, got, err, want, wantErr)
	}
}

func wantMark(t *testing.T, l blockList, block int, want []int, wantErr api.Errno) {
	t.Helper()
	got, err := Mark(l.blocks, l.bad, block)
	if !slices.Equal(got, want) || err != wantErr {
		t.Errorf("Mark(%s, %d) is %s and %d, not %s and %d", l.told(), block, shortened(got), err, shortened(want), wantErr)
	}
}

// wantPlain checks all functions with the argument x against the chapter.
func wantPlain(t *testing.T, l blockList, x int) {
	t.Helper()
	wantRight(t, l, plainRight(l))
	found, err := plainFind(l, x)
	wantFind(t, l, x, found, err)
	number, err := plainNumber(l, x)
	wantNumber(t, l, x, number, err)
	marked, err := plainMark(l, x)
	wantMark(t, l, x, marked, err)
}

// wantErrors checks what all functions return with the argument x.
func wantErrors(t *testing.T, l blockList, x int, find, number, mark api.Errno) {
	t.Helper()
	wantFind(t, l, x, 0, find)
	wantNumber(t, l, x, 0, number)
	wantMark(t, l, x, nil, mark)
}

// smallLists returns all valid lists of up to 8 blocks.
func smallLists() []blockList {
	var l []blockList
	for blocks := range 9 {
		for set := range 1 << blocks {
			var bad []int
			for b := range blocks {
				if set>>b%2 == 1 {
					bad = append(bad, b)
				}
			}
			l = append(l, blockList{blocks, bad})
		}
	}
	return l
}

// largeLists returns valid lists of as many blocks as there may be, or nearly.
func largeLists() []blockList {
	var l []blockList
	for _, blocks := range []int{1000, api.MaxText - 1, api.MaxText} {
		l = append(l,
			blockList{blocks, nil},
			blockList{blocks, []int{0}},
			blockList{blocks, []int{blocks - 1}},
			blockList{blocks, []int{0, 1, 2, blocks / 2, blocks - 2, blocks - 1}},
			blockList{blocks, every(blocks, 1)},
			blockList{blocks, every(blocks, 1)[1:]},
			blockList{blocks, every(blocks, 1)[:blocks-1]},
			blockList{blocks, every(blocks, 2)},
			blockList{blocks, every(blocks, 7)})
	}
	return l
}

// wrongLists returns lists that are not valid.
func wrongLists() []blockList {
	l := []blockList{
		{0, []int{0}}, {0, []int{-1}}, {1, []int{1}}, {1, []int{0, 0}}, {1, []int{0, 1}},
		{6, []int{-1}}, {6, []int{6}}, {6, []int{7}}, {6, []int{math.MinInt}}, {6, []int{math.MaxInt}},
		{6, []int{2, 2}}, {6, []int{2, 1}}, {6, []int{5, 0}}, {6, []int{-1, 2}}, {6, []int{2, 6}}, {6, []int{2, -1}},
		{6, []int{0, 1, 2, 3, 4, 5, 5}}, {6, []int{0, 1, 2, 3, 4, 5, 6}}, {6, []int{0, 1, 3, 2, 4, 5}},
		{6, []int{0, math.MaxInt, math.MinInt}}, {6, []int{1, math.MaxInt, 2}}, {6, []int{1, math.MinInt, 2}},
		{api.MaxText, []int{api.MaxText}}, {api.MaxText, append(every(api.MaxText, 1), 4096)},
		{api.MaxText, append(every(api.MaxText, 1), 4095)},
	}
	for _, blocks := range []int{math.MinInt, -4096, -2, -1, 4097, 4098, 1 << 32, math.MaxInt} {
		l = append(l, blockList{blocks, nil}, blockList{blocks, []int{}}, blockList{blocks, []int{0}},
			blockList{blocks, []int{1, 2}}, blockList{blocks, []int{blocks}}, blockList{blocks, []int{blocks - 1}})
	}
	return l
}

// every returns the multiples of step below blocks.
func every(blocks, step int) []int {
	var l []int
	for b := 0; b < blocks; b += step {
		l = append(l, b)
	}
	return l
}

// someNumbers returns numbers within the blocks, at their bounds and beyond.
func someNumbers(blocks int) []int {
	l := []int{
		math.MinInt, math.MinInt + 1, -1 << 32, -4096, -2, -1, 0, 1, 2, 3, 4, 5, 6, 7, 8, 9, 10,
		blocks - 2, blocks - 1, blocks, blocks + 1, blocks / 2, blocks/2 - 1, blocks/2 + 1,
		4095, 4096, 4097, 1 << 32, math.MaxInt - 1, math.MaxInt,
	}
	return l
}

// told is a short form of l.
func (l blockList) told() string {
	return shortened([]int{l.blocks}) + " " + shortened(l.bad)
}

// shortened tells the elements of l, or how many there are.
func shortened(l []int) string {
	if len(l) > 20 {
		return fmt.Sprintf("[%d elements]", len(l))
	}
	return fmt.Sprint(l)
}

func TestRightOfValidLists(t *testing.T) {
	for _, l := range append(smallLists(), largeLists()...) {
		wantRight(t, l, true)
	}
}

func TestRightOfInvalidLists(t *testing.T) {
	for _, l := range wrongLists() {
		wantRight(t, l, false)
	}
}

// The number of blocks has a lower and an upper bound, also if none is bad.
func TestRightOfNumbersOfBlocks(t *testing.T) {
	for _, blocks := range []int{0, 1, 6, api.MaxText - 1, api.MaxText} {
		wantRight(t, blockList{blocks, nil}, true)
		wantRight(t, blockList{blocks, []int{}}, true)
	}
	for _, blocks := range []int{math.MinInt, -1, api.MaxText + 1, math.MaxInt} {
		wantRight(t, blockList{blocks, nil}, false)
		wantRight(t, blockList{blocks, []int{}}, false)
	}
}

// All lists of up to four elements, in all orders and with repetitions.
func TestRightOfAllShortLists(t *testing.T) {
	for blocks := -1; blocks <= 4; blocks++ {
		lists := [][]int{nil}
		for len(lists) > 0 {
			bad := lists[0]
			lists = lists[1:]
			wantRight(t, blockList{blocks, bad}, plainRight(blockList{blocks, bad}))
			if len(bad) == 4 {
				continue
			}
			for b := -1; b <= 5; b++ {
				lists = append(lists, append(slices.Clone(bad), b))
			}
		}
	}
}

// The chapter's example: of six blocks of which 1 and 2 are bad, number 1 is
// block 3.
func TestExample(t *testing.T) {
	l := blockList{6, []int{1, 2}}
	wantFind(t, l, 1, 3, api.OK)
	wantNumber(t, l, 3, 1, api.OK)
}

func TestFindKnownBlocks(t *testing.T) {
	for n, block := range []int{0, 3, 4, 5} {
		wantFind(t, blockList{6, []int{1, 2}}, n, block, api.OK)
	}
	for n, block := range []int{1, 2, 3, 4} {
		wantFind(t, blockList{6, []int{0, 5}}, n, block, api.OK)
	}
	for n, block := range []int{2, 4, 7} {
		wantFind(t, blockList{8, []int{0, 1, 3, 5, 6}}, n, block, api.OK)
	}
	wantFind(t, blockList{1, nil}, 0, 0, api.OK)
	wantFind(t, blockList{2, []int{0}}, 0, 1, api.OK)
	wantFind(t, blockList{4096, nil}, 4095, 4095, api.OK)
	wantFind(t, blockList{4096, every(4096, 1)[:4095]}, 0, 4095, api.OK)
}

func TestFindBeyondTheGoodBlocks(t *testing.T) {
	for _, n := range []int{math.MinInt, -2, -1, 4, 5, 6, 7, 4096, math.MaxInt} {
		wantFind(t, blockList{6, []int{1, 2}}, n, 0, api.ErrNone)
	}
	for _, n := range []int{math.MinInt, -1, 0, 1, math.MaxInt} {
		wantFind(t, blockList{0, nil}, n, 0, api.ErrNone)
		wantFind(t, blockList{3, []int{0, 1, 2}}, n, 0, api.ErrNone)
	}
}

func TestNumberKnownBlocks(t *testing.T) {
	l := blockList{8, []int{0, 1, 3, 5, 6}}
	wantNumber(t, l, 2, 0, api.OK)
	wantNumber(t, l, 4, 1, api.OK)
	wantNumber(t, l, 7, 2, api.OK)
	for _, block := range l.bad {
		wantNumber(t, l, block, 0, api.ErrDead)
	}
	wantNumber(t, blockList{4096, nil}, 4095, 4095, api.OK)
	wantNumber(t, blockList{4096, every(4096, 2)}, 4095, 2047, api.OK)
}

func TestMarkKnownBlocks(t *testing.T) {
	l := blockList{8, []int{1, 4, 6}}
	wantMark(t, l, 0, []int{0, 1, 4, 6}, api.OK)
	wantMark(t, l, 2, []int{1, 2, 4, 6}, api.OK)
	wantMark(t, l, 3, []int{1, 3, 4, 6}, api.OK)
	wantMark(t, l, 5, []int{1, 4, 5, 6}, api.OK)
	wantMark(t, l, 7, []int{1, 4, 6, 7}, api.OK)
	for _, block := range l.bad {
		wantMark(t, l, block, nil, api.ErrHeld)
	}
	wantMark(t, blockList{1, nil}, 0, []int{0}, api.OK)
	wantMark(t, blockList{1, []int{0}}, 0, nil, api.ErrHeld)
	wantMark(t, blockList{4096, every(4096, 1)[:4095]}, 4095, every(4096, 1), api.OK)
}

func TestBlocksOutOfRange(t *testing.T) {
	for _, bad := range [][]int{nil, {1, 2}, {0, 5}, {0, 1, 2, 3, 4, 5}} {
		for _, block := range []int{math.MinInt, -6, -1, 6, 7, 4096, math.MaxInt} {
			wantErrors(t, blockList{6, bad}, block, api.ErrNone, api.ErrRange, api.ErrRange)
		}
	}
	for _, block := range []int{math.MinInt, -1, 0, 1, math.MaxInt} {
		wantErrors(t, blockList{0, nil}, block, api.ErrNone, api.ErrRange, api.ErrRange)
	}
}

// An invalid list is the first error, whatever the other argument is.
func TestErrorsOfInvalidLists(t *testing.T) {
	for _, l := range wrongLists() {
		for _, x := range someNumbers(l.blocks) {
			wantErrors(t, l, x, api.ErrForm, api.ErrForm, api.ErrForm)
		}
	}
}

func TestSmallListsFollowTheChapter(t *testing.T) {
	for _, l := range smallLists() {
		for x := -2; x <= l.blocks+2; x++ {
			wantPlain(t, l, x)
		}
	}
}

func TestLargeListsFollowTheChapter(t *testing.T) {
	for _, l := range largeLists() {
		for _, x := range someNumbers(l.blocks) {
			wantPlain(t, l, x)
		}
	}
}

// Good blocks are numbered consecutively: Find and Number are inverse.
func TestFindAndNumberAreInverse(t *testing.T) {
	for _, l := range append(smallLists(), largeLists()...) {
		n := 0
		for block := range l.blocks {
			if _, isBad := slices.BinarySearch(l.bad, block); isBad {
				wantNumber(t, l, block, 0, api.ErrDead)
				continue
			}
			wantNumber(t, l, block, n, api.OK)
			wantFind(t, l, n, block, api.OK)
			n++
		}
		wantFind(t, l, n, 0, api.ErrNone)
	}
}

// Blocks go bad one by one, in any order, until none is good.
func TestMarkAllBlocks(t *testing.T) {
	for _, step := range []int{1, 3, 7, 50, 96} { // none has a factor in common with 97
		l, want := blockList{97, nil}, []int(nil)
		for i := range 97 {
			block := i * step % 97
			want = append(want, block)
			slices.Sort(want)
			wantMark(t, l, block, want, api.OK)
			l.bad, _ = Mark(97, l.bad, block)
			wantMark(t, l, block, nil, api.ErrHeld)
			wantNumber(t, l, block, 0, api.ErrDead)
			wantRight(t, l, true)
		}
		wantFind(t, l, 0, 0, api.ErrNone)
	}
}

// A block that goes bad moves the blocks behind it, and no others.
func TestMarkMovesTheBlocksBehind(t *testing.T) {
	for _, l := range smallLists() {
		for _, gone := range plainGood(l) {
			marked, _ := Mark(l.blocks, l.bad, gone)
			for _, block := range plainGood(blockList{l.blocks, marked}) {
				before, _ := Number(l.blocks, l.bad, block)
				if block > gone {
					before--
				}
				wantNumber(t, blockList{l.blocks, marked}, block, before, api.OK)
			}
		}
	}
}

// within returns l as a slice with spare capacity, and the memory around it.
func within(l []int, spare int) ([]int, []int) {
	around := slices.Concat([]int{spare, spare}, l, slices.Repeat([]int{spare}, 16))
	return around[2 : 2+len(l)], around
}

func TestArgumentsStayAsTheyAre(t *testing.T) {
	for _, l := range slices.Concat(smallLists(), wrongLists(), largeLists()) {
		for _, spare := range []int{-1, 0, len(l.bad), l.blocks - 1} {
			arg, around := within(l.bad, spare)
			before := slices.Clone(around)
			for x := -1; x <= 8; x++ {
				wantPlain(t, blockList{l.blocks, arg}, x)
			}
			if !slices.Equal(around, before) {
				t.Fatalf("an argument %s is changed", l.told())
			}
		}
	}
}

func TestMarkIsNewMemory(t *testing.T) {
	for _, l := range smallLists() {
		for _, block := range plainGood(l) {
			arg, around := within(l.bad, 77)
			marked, _ := Mark(l.blocks, arg, block)
			want := slices.Clone(marked)
			clear(around)
			if !slices.Equal(marked, want) {
				t.Errorf("what Mark(%s, %d) returned changes with its argument", l.told(), block)
			}
			clear(marked[:cap(marked)])
			wantMark(t, l, block, want, api.OK)
		}
	}
}
