package nand

import (
	"fmt"
	"math"
	"slices"
	"testing"

	"flintstore/api"
)

// plainRight is the chapter's definition.
func plainRight(l []api.Block) bool {
	if len(l) != 8 {
		return false
	}
	for _, b := range l {
		if b.Done < 0 || b.Done > 4 || b.Wear < 0 || b.Wear > 1<<20 {
			return false
		}
		for page, x := range b.Data {
			if page >= b.Done && x != 0 {
				return false
			}
		}
	}
	return true
}

// plainError is the chapter's list of errors, in its order.
func plainError(l []api.Block, o api.NandOp) api.Errno {
	if !plainRight(l) {
		return api.ErrForm
	}
	if o.Kind < 1 || o.Kind > 3 {
		return api.ErrKind
	}
	if o.Block < 0 || o.Block > 7 {
		return api.ErrRange
	}
	if o.Kind != 2 && (o.Page < 0 || o.Page > 3) {
		return api.ErrRange
	}
	b := l[o.Block]
	if o.Kind == 1 && o.Page < b.Done {
		return api.ErrHeld
	}
	if o.Kind == 1 && o.Page > b.Done {
		return api.ErrNone
	}
	if o.Kind == 2 && b.Wear == 1<<20 {
		return api.ErrDead
	}
	if o.Kind == 3 && o.Page >= b.Done {
		return api.ErrNone
	}
	return api.OK
}

// plainStep is the chapter's definition of Step.
func plainStep(l []api.Block, o api.NandOp) stepped {
	if err := plainError(l, o); err != api.OK {
		return stepped{err: err}
	}
	next := append([]api.Block{}, l...)
	b := l[o.Block]
	if o.Kind == 3 {
		return stepped{next, b.Data[o.Page], api.OK}
	}
	if o.Kind == 1 {
		b.Data[o.Page], b.Done = o.Data, b.Done+1
	} else {
		b.Data, b.Done, b.Wear = [4]int{}, 0, b.Wear+1
	}
	next[o.Block] = b
	return stepped{next, 0, api.OK}
}

// stepped is what comes of a step.
type stepped struct {
	l    []api.Block
	data int
	err  api.Errno
}

func step(l []api.Block, o api.NandOp) stepped {
	next, data, err := Step(l, o)
	return stepped{next, data, err}
}

func (s stepped) equals(other stepped) bool {
	return slices.Equal(s.l, other.l) && s.data == other.data && s.err == other.err
}

// wantStep checks what a step on l returns.
func wantStep(t *testing.T, l []api.Block, o api.NandOp, want stepped) {
	t.Helper()
	if got := step(l, o); !got.equals(want) {
		t.Errorf("Step(%v, %v) is %v, not %v", l, o, got, want)
	}
}

// wantError checks that nothing but an error comes of a step on l.
func wantError(t *testing.T, l []api.Block, o api.NandOp, want api.Errno) {
	t.Helper()
	wantStep(t, l, o, stepped{err: want})
}

// with returns a new flash that has b at the place k.
func with(k int, b api.Block) []api.Block {
	l := make([]api.Block, 8)
	l[k] = b
	return l
}

// mixed returns a flash whose blocks all differ.
func mixed() []api.Block {
	return []api.Block{
		{},
		{Data: [4]int{11}, Done: 1},
		{Data: [4]int{21, -22}, Done: 2, Wear: 2},
		{Data: [4]int{31, 0, 33}, Done: 3, Wear: 3},
		{Data: [4]int{math.MinInt, -42, 0, math.MaxInt}, Done: 4, Wear: 4},
		{Done: 4, Wear: 1 << 20},
		{Wear: 1 << 20},
		{Data: [4]int{81, 82}, Done: 2, Wear: 1<<20 - 1},
	}
}

// wrongBlocks returns blocks that no valid flash has.
func wrongBlocks() []api.Block {
	l := []api.Block{
		{Done: -1}, {Done: 5}, {Done: math.MinInt}, {Done: math.MaxInt},
		{Wear: -1}, {Wear: 1<<20 + 1}, {Wear: math.MinInt}, {Wear: math.MaxInt},
		{Done: -1, Wear: -1}, {Data: [4]int{1, 2, 3, 4}, Done: 5, Wear: 1<<20 + 1},
	}
	for done := range 4 {
		for page := done; page < 4; page++ {
			for _, x := range []int{1, -1, math.MinInt, math.MaxInt} {
				b := api.Block{Done: done, Wear: 1}
				b.Data[page] = x
				l = append(l, b)
			}
		}
	}
	return l
}

// wrongFlashes returns flashes that are not valid: with too few or too many
// blocks, with none, and with one wrong block at each place.
func wrongFlashes() [][]api.Block {
	l := [][]api.Block{nil, {}, mixed()[:7], append(mixed(), api.Block{})}
	for _, n := range []int{1, 7, 9, 16} {
		l = append(l, make([]api.Block, n))
	}
	for _, b := range wrongBlocks() {
		for k := range 8 {
			l = append(l, with(k, b))
			m := mixed()
			m[k] = b
			l = append(l, m)
		}
	}
	return l
}

// rightFlashes returns flashes that are valid.
func rightFlashes() [][]api.Block {
	l := [][]api.Block{make([]api.Block, 8), mixed()}
	for done := range 5 {
		for _, wear := range []int{0, 1, 1<<20 - 1, 1 << 20} {
			b := api.Block{Done: done, Wear: wear}
			l = append(l, with(done, b))
			for page := range done {
				b.Data[page] = 100*done - 150*page
			}
			l = append(l, with(7-done, b), slices.Repeat([]api.Block{b}, 8))
		}
	}
	return l
}

// someOps returns operations of all kinds, known and unknown, on blocks and
// pages within a flash and beyond it.
func someOps() []api.NandOp {
	var l []api.NandOp
	for _, kind := range []int{math.MinInt, -1, 0, 1, 2, 3, 4, 5, math.MaxInt} {
		for _, block := range []int{math.MinInt, -1, 0, 1, 2, 3, 4, 5, 6, 7, 8, math.MaxInt} {
			for _, page := range []int{math.MinInt, -1, 0, 1, 2, 3, 4, math.MaxInt} {
				l = append(l, api.NandOp{Kind: kind, Block: block, Page: page, Data: 9 - page})
			}
		}
	}
	return l
}

// noise returns n operations without a pattern, other ones for each seed. Most
// of them are about few blocks, and some of them have errors.
func noise(n, seed int) []api.NandOp {
	x := uint64(seed)
	next := func(limit int) int {
		x = x*6364136223846793005 + 1442695040888963407
		return int(x>>33) % limit
	}
	var l []api.NandOp
	for range n {
		o := api.NandOp{Kind: next(4), Block: next(9), Page: next(5), Data: next(2000) - 1000}
		if next(3) > 0 {
			o.Kind, o.Block = 1+2*next(2), next(2)
		}
		l = append(l, o)
	}
	return l
}

func TestNew(t *testing.T) {
	for range 2 {
		l := New()
		if !slices.Equal(l, make([]api.Block, 8)) {
			t.Errorf("New() is %v", l)
		}
		if !Right(l) {
			t.Errorf("New() is not valid")
		}
		// The next flash must not be this one.
		l[0] = api.Block{Data: [4]int{1}, Done: 1, Wear: 1}
	}
}

func TestRightOfValidFlashes(t *testing.T) {
	for _, l := range rightFlashes() {
		if !Right(l) {
			t.Errorf("Right(%v) is false", l)
		}
	}
}

func TestRightOfInvalidFlashes(t *testing.T) {
	for _, l := range wrongFlashes() {
		if Right(l) {
			t.Errorf("Right(%v) is true", l)
		}
	}
}

// Each element of Data is free below Done, and 0 from there on.
func TestRightOfData(t *testing.T) {
	for done := range 5 {
		for page := range 4 {
			b := api.Block{Done: done}
			b.Data[page] = -1
			for k := range 8 {
				if got := Right(with(k, b)); got != (page < done) {
					t.Errorf("Right with page %d of %d programmed ones of block %d is %v", page, done, k, got)
				}
			}
		}
	}
}

func TestStepWithInvalidFlashes(t *testing.T) {
	ops := []api.NandOp{{Kind: 1}, {Kind: 2, Block: 3}, {Kind: 3, Block: 4}, {Kind: 1, Block: 2, Page: 2, Data: 5}}
	for _, l := range wrongFlashes() {
		for _, o := range ops {
			wantError(t, l, o, api.ErrForm)
		}
	}
}

func TestStepOfUnknownKinds(t *testing.T) {
	for _, kind := range []int{math.MinInt, -3, -2, -1, 0, 4, 5, 100, math.MaxInt} {
		for block := range 8 {
			wantError(t, mixed(), api.NandOp{Kind: kind, Block: block, Page: 1, Data: 1}, api.ErrKind)
		}
	}
}

func TestStepBeyondTheBlocks(t *testing.T) {
	for _, block := range []int{math.MinInt, -8, -1, 8, 9, 1 << 32, math.MaxInt} {
		for kind := 1; kind <= 3; kind++ {
			wantError(t, mixed(), api.NandOp{Kind: kind, Block: block}, api.ErrRange)
		}
	}
}

func TestStepBeyondThePages(t *testing.T) {
	for _, page := range []int{math.MinInt, -4, -1, 4, 5, 1 << 32, math.MaxInt} {
		for block := range 8 {
			wantError(t, mixed(), api.NandOp{Kind: 1, Block: block, Page: page}, api.ErrRange)
			wantError(t, mixed(), api.NandOp{Kind: 3, Block: block, Page: page}, api.ErrRange)
		}
	}
}

// The page and the data of an erasure are ignored, whatever they are.
func TestEraseOfAnyPage(t *testing.T) {
	want := mixed()
	want[3] = api.Block{Wear: 4}
	for _, page := range []int{math.MinInt, -1, 0, 3, 4, 99, math.MaxInt} {
		for _, data := range []int{math.MinInt, 0, 7, math.MaxInt} {
			wantStep(t, mixed(), api.NandOp{Kind: 2, Block: 3, Page: page, Data: data}, stepped{l: want})
		}
	}
}

func TestProgramInOrder(t *testing.T) {
	for block := range 8 {
		l, want := New(), api.Block{}
		for page, x := range []int{7, math.MinInt, 0, math.MaxInt} {
			want.Data[page] = x
			want.Done = page + 1
			o := api.NandOp{Kind: 1, Block: block, Page: page, Data: x}
			wantStep(t, l, o, stepped{l: with(block, want)})
			l, _, _ = Step(l, o)
		}
		for page := range 4 {
			wantError(t, l, api.NandOp{Kind: 1, Block: block, Page: page}, api.ErrHeld)
		}
	}
}

// A page that was programmed keeps its data, also if the same data come again,
// and a page is not programmed before those in front of it.
func TestProgramOutOfOrder(t *testing.T) {
	for done := range 5 {
		b := api.Block{Done: done, Wear: 2}
		for page := range done {
			b.Data[page] = 5
		}
		for page := range 4 {
			o := api.NandOp{Kind: 1, Block: 6, Page: page, Data: 5}
			switch {
			case page < done:
				wantError(t, with(6, b), o, api.ErrHeld)
			case page > done:
				wantError(t, with(6, b), o, api.ErrNone)
			default:
				want := b
				want.Data[page], want.Done = 5, done+1
				wantStep(t, with(6, b), o, stepped{l: with(6, want)})
			}
		}
	}
}

// The chapter's example: page 2 of a block cannot be programmed before its
// page 0.
func TestPlayExample(t *testing.T) {
	ops := []api.NandOp{{Kind: api.NandProgram, Block: 3, Page: 2, Data: 9}, {Kind: api.NandProgram, Block: 3, Data: 7}}
	want := with(3, api.Block{Data: [4]int{7}, Done: 1})
	wantPlay(t, ops, []api.Errno{api.ErrNone, api.OK}, nil, want)
}

func TestErase(t *testing.T) {
	for block, b := range mixed() {
		o := api.NandOp{Kind: 2, Block: block}
		if b.Wear == 1<<20 {
			wantError(t, mixed(), o, api.ErrDead)
			continue
		}
		want := mixed()
		want[block] = api.Block{Wear: b.Wear + 1}
		wantStep(t, mixed(), o, stepped{l: want})
	}
}

// A block that cannot be erased any more still takes data and tells them.
func TestDeadBlock(t *testing.T) {
	b := api.Block{Wear: 1<<20 - 1}
	l, _, err := Step(with(2, b), api.NandOp{Kind: 2, Block: 2})
	if err != api.OK || !slices.Equal(l, with(2, api.Block{Wear: 1 << 20})) {
		t.Fatalf("the last erasure is %d and leaves %v", err, l)
	}
	wantError(t, l, api.NandOp{Kind: 2, Block: 2}, api.ErrDead)
	want := with(2, api.Block{Data: [4]int{6}, Done: 1, Wear: 1 << 20})
	wantStep(t, l, api.NandOp{Kind: 1, Block: 2, Data: 6}, stepped{l: want})
	wantStep(t, want, api.NandOp{Kind: 3, Block: 2}, stepped{want, 6, api.OK})
	wantError(t, want, api.NandOp{Kind: 2, Block: 2}, api.ErrDead)
}

func TestRead(t *testing.T) {
	for block, b := range mixed() {
		for page := range 4 {
			o := api.NandOp{Kind: 3, Block: block, Page: page, Data: 77}
			if page < b.Done {
				wantStep(t, mixed(), o, stepped{mixed(), b.Data[page], api.OK})
			} else {
				wantError(t, mixed(), o, api.ErrNone)
			}
		}
	}
}

// What was erased cannot be read, until it is programmed again.
func TestReadAfterErase(t *testing.T) {
	ops := []api.NandOp{
		{Kind: 3}, {Kind: 1, Data: 5}, {Kind: 1, Page: 1, Data: 6}, {Kind: 3}, {Kind: 2}, {Kind: 3}, {Kind: 3, Page: 1},
		{Kind: 1, Page: 1, Data: 8}, {Kind: 1, Data: 8}, {Kind: 3}, {Kind: 3, Page: 1},
	}
	codes := []api.Errno{api.ErrNone, 0, 0, 0, 0, api.ErrNone, api.ErrNone, api.ErrNone, 0, 0, api.ErrNone}
	want := with(0, api.Block{Data: [4]int{8}, Done: 1, Wear: 1})
	wantPlay(t, ops, codes, []int{5, 8}, want)
}

// Of several errors the first one of the chapter's list is returned.
func TestSeveralErrors(t *testing.T) {
	wrong := mixed()
	wrong[7].Wear = -1
	for _, x := range []struct {
		l    []api.Block
		o    api.NandOp
		want api.Errno
	}{
		{nil, api.NandOp{Kind: 9, Block: 9, Page: 9}, api.ErrForm},
		{wrong, api.NandOp{Kind: 0, Block: -1, Page: -1}, api.ErrForm},
		{wrong, api.NandOp{Kind: 1, Block: 8}, api.ErrForm},
		{wrong, api.NandOp{Kind: 1, Block: 1, Page: 0}, api.ErrForm},
		{wrong, api.NandOp{Kind: 2, Block: 6}, api.ErrForm},
		{wrong, api.NandOp{Kind: 3, Block: 0}, api.ErrForm},
		{mixed(), api.NandOp{Kind: 4, Block: 8, Page: 4}, api.ErrKind},
		{mixed(), api.NandOp{Kind: 0, Block: -1, Page: -1}, api.ErrKind},
		{mixed(), api.NandOp{Kind: 1, Block: 1, Page: -1}, api.ErrRange}, // less than Done
		{mixed(), api.NandOp{Kind: 1, Block: 1, Page: 4}, api.ErrRange},  // greater than Done
		{mixed(), api.NandOp{Kind: 1, Block: 4, Page: 4}, api.ErrRange},  // just Done
		{mixed(), api.NandOp{Kind: 3, Block: 1, Page: 4}, api.ErrRange},  // not less than Done
		{mixed(), api.NandOp{Kind: 3, Block: 4, Page: -1}, api.ErrRange}, // less than Done
		{mixed(), api.NandOp{Kind: 2, Block: 6, Page: 4}, api.ErrDead},   // the page does not matter
	} {
		wantError(t, x.l, x.o, x.want)
	}
}

func TestStepFollowsTheChapter(t *testing.T) {
	for _, l := range append(rightFlashes(), wrongFlashes()[:12]...) {
		for _, o := range someOps() {
			wantStep(t, l, o, plainStep(l, o))
		}
	}
}

// wantPlay checks what comes of ops on a new flash.
func wantPlay(t *testing.T, ops []api.NandOp, codes []api.Errno, read []int, l []api.Block) {
	t.Helper()
	a, b, c := Play(ops)
	if !slices.Equal(a, codes) || !slices.Equal(b, read) || !slices.Equal(c, l) {
		t.Errorf("Play is %s, not %s", told(a, b, c), told(codes, read, l))
	}
}

// told is a short form of what comes of a Play.
func told(codes []api.Errno, read []int, l []api.Block) string {
	if len(codes) > 100 {
		return fmt.Sprintf("%d codes, %d data and %v", len(codes), len(read), l)
	}
	return fmt.Sprintf("%v, %v and %v", codes, read, l)
}

func TestPlayOfNothing(t *testing.T) {
	wantPlay(t, nil, nil, nil, make([]api.Block, 8))
	wantPlay(t, []api.NandOp{}, nil, nil, make([]api.Block, 8))
}

// Operations with an error in the middle leave the flash as it was.
func TestPlayWithErrors(t *testing.T) {
	ops := []api.NandOp{
		{Kind: 1, Block: 1, Data: 3},          // OK
		{Kind: 1, Block: 1, Data: 4},          // again
		{Kind: 3, Block: 1},                   // reads 3
		{Kind: 1, Block: 1, Page: 3, Data: 4}, // too early
		{Kind: 7, Block: 1},
		{Kind: 1, Block: 8, Data: 4},
		{Kind: 1, Block: 1, Page: -1, Data: 4},
		{Kind: 2, Block: -1},
		{Kind: 3, Block: 1, Page: 1},           // before it was programmed
		{Kind: 1, Block: 1, Page: 1, Data: -5}, // OK
		{Kind: 3, Block: 1, Page: 1},           // reads -5
		{Kind: 3, Block: 1, Page: 4},
		{Kind: 3, Block: 1}, // reads 3
		{Kind: 2, Block: 7}, // OK
	}
	codes := []api.Errno{
		api.OK, api.ErrHeld, api.OK, api.ErrNone, api.ErrKind, api.ErrRange, api.ErrRange, api.ErrRange,
		api.ErrNone, api.OK, api.OK, api.ErrRange, api.OK, api.OK,
	}
	want := with(1, api.Block{Data: [4]int{3, -5}, Done: 2})
	want[7].Wear = 1
	wantPlay(t, ops, codes, []int{3, -5, 3}, want)
}

// Every read tells its data, also 0, and nothing else does.
func TestPlayTellsAllReads(t *testing.T) {
	ops := []api.NandOp{
		{Kind: 1, Data: 0}, {Kind: 3}, {Kind: 1, Block: 5, Data: 8}, {Kind: 3, Block: 5}, {Kind: 3}, {Kind: 3, Block: 5},
		{Kind: 2, Block: 5}, {Kind: 3, Block: 5}, {Kind: 3},
	}
	codes := []api.Errno{0, 0, 0, 0, 0, 0, 0, api.ErrNone, 0}
	want := with(0, api.Block{Done: 1})
	want[5].Wear = 1
	wantPlay(t, ops, codes, []int{0, 8, 0, 8, 0}, want)
}

func TestPlayIsStepByStep(t *testing.T) {
	for seed := range 40 {
		ops := noise(10*seed*seed, seed)
		l := make([]api.Block, 8)
		var codes []api.Errno
		var read []int
		for _, o := range ops {
			s := plainStep(l, o)
			codes = append(codes, s.err)
			if s.err == api.OK {
				l = s.l
				if o.Kind == 3 {
					read = append(read, s.data)
				}
			}
		}
		wantPlay(t, ops, codes, read, l)
	}
}

// The number of operations has no limit but that of the erasures.
func TestPlayUntilABlockIsDead(t *testing.T) {
	ops := slices.Repeat([]api.NandOp{{Kind: 2, Block: 4}}, 1<<20)
	codes := make([]api.Errno, 1<<20)
	want := with(4, api.Block{Wear: 1 << 20})
	wantPlay(t, ops, codes, nil, want)
	wantPlay(t, append(ops, api.NandOp{Kind: 2, Block: 4}), append(codes, api.ErrDead), nil, want)
}

// Programmed pages keep their data until their block is erased.
func TestProgrammedPagesStay(t *testing.T) {
	l := New()
	for _, o := range noise(3000, 77) {
		next, _, err := Step(l, o)
		if err != api.OK {
			continue
		}
		for k, b := range l {
			if o.Kind == 2 && o.Block == k {
				continue
			}
			if !slices.Equal(b.Data[:b.Done], next[k].Data[:b.Done]) || next[k].Done < b.Done || next[k].Wear != b.Wear {
				t.Fatalf("block %d is %v before %v, and %v after it", k, b, o, next[k])
			}
		}
		if !Right(next) {
			t.Fatalf("%v is not valid after %v", next, o)
		}
		l = next
	}
}

// within returns l as a slice with spare capacity, and the memory around it.
func within[E any](l []E, spare E) ([]E, []E) {
	around := slices.Concat([]E{spare, spare}, l, slices.Repeat([]E{spare}, 16))
	return around[2 : 2+len(l)], around
}

func TestArgumentsStayAsTheyAre(t *testing.T) {
	spare := api.Block{Data: [4]int{1, 2, 3, 4}, Done: -3, Wear: -3}
	for _, l := range append(rightFlashes(), wrongFlashes()[:12]...) {
		for _, o := range someOps() {
			arg, around := within(l, spare)
			before := slices.Clone(around)
			wantStep(t, arg, o, plainStep(l, o))
			if got := Right(arg); got != plainRight(l) {
				t.Errorf("Right(%v) with spare capacity is %v", l, got)
			}
			if !slices.Equal(around, before) {
				t.Fatalf("Step(%v, %v) changed its argument", l, o)
			}
		}
	}
	ops, around := within(noise(200, 5), api.NandOp{Kind: 1})
	before := slices.Clone(around)
	if codes, _, _ := Play(ops); len(codes) != 200 {
		t.Errorf("Play of 200 operations tells %d error codes", len(codes))
	}
	if !slices.Equal(around, before) {
		t.Errorf("Play changed its argument")
	}
}

func TestResultsAreNewMemory(t *testing.T) {
	for _, o := range []api.NandOp{{Kind: 1, Block: 2, Page: 2, Data: 5}, {Kind: 2, Block: 3}, {Kind: 3, Block: 4, Page: 1}} {
		l := mixed()
		next, _, _ := Step(l, o)
		want := slices.Clone(next)
		clear(l)
		if len(next) != 8 || !slices.Equal(next, want) {
			t.Errorf("what Step returned for %v changes with its argument", o)
		}
	}
	ops := []api.NandOp{{Kind: 1, Data: 4}, {Kind: 3}}
	codes, read, l := Play(ops)
	clear(ops)
	codes[0], read[0], l[0] = api.ErrSum, 1, api.Block{Wear: 5}
	ops = []api.NandOp{{Kind: 1, Data: 4}, {Kind: 3}}
	wantPlay(t, ops, []api.Errno{0, 0}, []int{4}, with(0, api.Block{Data: [4]int{4}, Done: 1}))
}
