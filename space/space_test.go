package space

import (
	"fmt"
	"math"
	"slices"
	"testing"

	"flintstore/api"
)

// most is the largest size of a device.
const most = 4096

func take(many int) api.SpaceOp { return api.SpaceOp{Kind: 1, Many: many} }

func fit(many int) api.SpaceOp { return api.SpaceOp{Kind: 2, Many: many} }

func give(at, many int) api.SpaceOp { return api.SpaceOp{Kind: 3, At: at, Many: many} }

// gap returns the gap of many blocks from at on.
func gap(at, many int) api.Gap { return api.Gap{At: at, Many: many} }

// done and failed are what comes of an operation.
func done(at int) api.SpaceAns { return api.SpaceAns{At: at} }

func failed(err api.Errno) api.SpaceAns { return api.SpaceAns{Err: err} }

// plainDevice tells of each of its blocks whether it is free.
type plainDevice []bool

// gaps takes the blocks one by one.
func (d plainDevice) gaps() []api.Gap {
	var out []api.Gap
	for block, free := range d {
		switch {
		case !free:
		case block > 0 && d[block-1]:
			out[len(out)-1].Many++
		default:
			out = append(out, gap(block, 1))
		}
	}
	return out
}

// set makes all blocks of g free, or not free.
func (d plainDevice) set(g api.Gap, free bool) {
	for block := g.At; block < g.At+g.Many; block++ {
		d[block] = free
	}
}

// within reports whether g has blocks, all of them below size.
func within(size int, g api.Gap) bool {
	return g.At >= 0 && g.At < size && g.Many >= 1 && g.Many <= size && g.At+g.Many <= size
}

// plainOf returns a device with the gaps l, if there is one of that size.
func plainOf(size int, l []api.Gap) (plainDevice, bool) {
	if size < 0 || size > most {
		return nil, false
	}
	d := make(plainDevice, size)
	for _, g := range l {
		if !within(size, g) {
			return nil, false
		}
		d.set(g, true)
	}
	return d, slices.Equal(d.gaps(), l)
}

// plainPerform performs o as the chapter says, and changes d if there is no
// error.
func (d plainDevice) plainPerform(o api.SpaceOp) api.SpaceAns {
	if o.Kind < 1 || o.Kind > 3 {
		return failed(api.ErrKind)
	}
	if o.Many < 1 || o.Many > len(d) {
		return failed(api.ErrRange)
	}
	if o.Kind == 3 {
		return d.plainGive(gap(o.At, o.Many))
	}
	wide := slices.DeleteFunc(d.gaps(), func(g api.Gap) bool { return g.Many < o.Many })
	if len(wide) == 0 {
		return failed(api.ErrFull)
	}
	if o.Kind == 2 {
		slices.SortStableFunc(wide, func(a, b api.Gap) int { return a.Many - b.Many })
	}
	d.set(gap(wide[0].At, o.Many), false)
	return done(wide[0].At)
}

func (d plainDevice) plainGive(g api.Gap) api.SpaceAns {
	if !within(len(d), g) {
		return failed(api.ErrRange)
	}
	if slices.Contains(d[g.At:g.At+g.Many], true) {
		return failed(api.ErrHeld)
	}
	d.set(g, true)
	return done(g.At)
}

// shortened tells values, of long lists only the first ones.
func shortened[T any](l []T) string {
	if len(l) <= 12 {
		return fmt.Sprint(l)
	}
	return fmt.Sprintf("%v and %d more", l[:12], len(l)-12)
}

func wantRight(t *testing.T, l []api.Gap, want bool) {
	t.Helper()
	if got := Right(l); got != want {
		t.Errorf("Right(%s) is %v", shortened(l), got)
	}
}

func wantStep(t *testing.T, size int, l []api.Gap, o api.SpaceOp, want []api.Gap, wantAns api.SpaceAns) {
	t.Helper()
	if got, ans := Step(size, l, o); !slices.Equal(got, want) || ans != wantAns {
		t.Errorf("Step(%d, %s, %v) is %s and %v, not %s and %v", size, shortened(l), o, shortened(got), ans, shortened(want), wantAns)
	}
}

// wantPlainStep checks a call against the chapter.
func wantPlainStep(t *testing.T, size int, l []api.Gap, o api.SpaceOp) {
	t.Helper()
	d, ok := plainOf(size, l)
	if !ok {
		wantStep(t, size, l, o, nil, failed(api.ErrForm))
		return
	}
	ans := d.plainPerform(o)
	if ans.Err != api.OK {
		wantStep(t, size, l, o, nil, ans)
		return
	}
	wantStep(t, size, l, o, d.gaps(), ans)
}

func wantPlay(t *testing.T, size int, ops []api.SpaceOp, want []api.SpaceAns, wantGaps []api.Gap, wantErr api.Errno) {
	t.Helper()
	answers, l, err := Play(size, ops)
	if !slices.Equal(answers, want) || !slices.Equal(l, wantGaps) || err != wantErr {
		t.Errorf("Play(%d, %s) is %s, %s and %d, not %s, %s and %d", size, shortened(ops),
			shortened(answers), shortened(l), err, shortened(want), shortened(wantGaps), wantErr)
	}
}

// wantPlainPlay checks a call against the chapter.
func wantPlainPlay(t *testing.T, size int, ops []api.SpaceOp) {
	t.Helper()
	d := make(plainDevice, size)
	d.set(gap(0, size), true)
	var want []api.SpaceAns
	for _, o := range ops {
		want = append(want, d.plainPerform(o))
	}
	wantPlay(t, size, ops, want, d.gaps(), api.OK)
}

// mixed returns n numbers that look mixed up, the same ones each time.
func mixed(n, seed int) []int {
	x := uint64(seed)*2654435761 + 12345
	out := make([]int, n)
	for k := range out {
		x = x*6364136223846793005 + 1442695040888963407
		out[k] = int(x >> 33)
	}
	return out
}

// wrongNumbers are outside the limits of all that a device has.
func wrongNumbers() []int {
	return []int{-1, -2, -most, most + 1, most + 2, 2 * most, 1 << 32, math.MinInt, math.MinInt + 1, math.MaxInt, math.MaxInt - 1}
}

func TestRightKnownLists(t *testing.T) {
	for _, l := range [][]api.Gap{
		nil,
		{},
		{gap(0, 1)},
		{gap(0, most)},
		{gap(most-1, 1)},
		{gap(1, most-1)},
		{gap(0, 2), gap(3, 1)},
		{gap(0, 2), gap(9, 4), gap(14, 1)},
		{gap(0, most-2), gap(most-1, 1)},
	} {
		wantRight(t, l, true)
	}
	for _, l := range [][]api.Gap{
		{{}},
		{gap(5, 0)},
		{gap(0, most+1)},
		{gap(1, most)},
		{gap(most, 1)},
		{gap(most-1, 2)},
		{gap(most, most)},
		{gap(0, 2), gap(2, 1)},
		{gap(0, 2), gap(1, 2)},
		{gap(0, 2), gap(0, 2)},
		{gap(0, 9), gap(3, 1)},
		{gap(5, 2), gap(0, 1)},
		{gap(0, 1), gap(5, 2), gap(3, 1)},
		{gap(0, 1), gap(5, 2), gap(7, 1)},
		{gap(0, most), gap(most+1, 1)},
	} {
		wantRight(t, l, false)
	}
}

func TestRightWrongNumbers(t *testing.T) {
	right := []api.Gap{gap(0, 2), gap(9, 1)}
	for _, n := range wrongNumbers() {
		for _, wrong := range []api.Gap{gap(n, 1), gap(n, n), gap(n, 0), gap(5, n), gap(0, n), gap(n, math.MaxInt), gap(math.MaxInt, n), gap(n, 1-n)} {
			wantRight(t, []api.Gap{wrong}, false)
			for at := range len(right) + 1 {
				l := slices.Insert(slices.Clone(right), at, wrong)
				wantRight(t, l, false)
				wantStep(t, most, l, take(1), nil, failed(api.ErrForm))
			}
		}
	}
}

// All lists of up to three gaps that may touch or overlap.
func TestRightSmallLists(t *testing.T) {
	lists := [][]api.Gap{nil}
	for round := range 4 {
		var longer [][]api.Gap
		for _, l := range lists {
			_, want := plainOf(12, l)
			wantRight(t, l, want)
			for n := range 8 * 4 {
				if round < 3 {
					longer = append(longer, append(slices.Clip(l), gap(n%8-1, n/8)))
				}
			}
		}
		lists = longer
	}
}

// As many gaps as there may be, of one block each.
func TestRightLongLists(t *testing.T) {
	var l []api.Gap
	for at := 0; at < most; at += 2 {
		l = append(l, gap(at, 1))
	}
	wantRight(t, l, true)
	wantRight(t, append(slices.Clip(l), gap(most, 1)), false)
	for _, at := range []int{0, 1, 500, most/2 - 1} {
		wrong := slices.Clone(l)
		wrong[at].Many = 2
		// Only behind the last one there is a block left.
		wantRight(t, wrong, at == most/2-1)
		wrong[at].Many = 0
		wantRight(t, wrong, false)
	}
}

func TestStepTakes(t *testing.T) {
	l := []api.Gap{gap(0, 3), gap(4, 2), gap(8, 5), gap(20, 2)}
	rest := func(at int, put ...api.Gap) []api.Gap {
		return slices.Replace(slices.Clone(l), at, at+1, put...)
	}
	wantStep(t, 30, l, take(1), rest(0, gap(1, 2)), done(0))
	wantStep(t, 30, l, take(2), rest(0, gap(2, 1)), done(0))
	wantStep(t, 30, l, take(3), rest(0), done(0))
	wantStep(t, 30, l, take(4), rest(2, gap(12, 1)), done(8))
	wantStep(t, 30, l, take(5), rest(2), done(8))
	wantStep(t, 30, l, take(6), nil, failed(api.ErrFull))
	// The first one of the smallest gaps that are wide enough.
	wantStep(t, 30, l, fit(1), rest(1, gap(5, 1)), done(4))
	wantStep(t, 30, l, fit(2), rest(1), done(4))
	wantStep(t, 30, l, fit(3), rest(0), done(0))
	wantStep(t, 30, l, fit(4), rest(2, gap(12, 1)), done(8))
	wantStep(t, 30, l, fit(5), rest(2), done(8))
	wantStep(t, 30, l, fit(6), nil, failed(api.ErrFull))

	wantStep(t, most, []api.Gap{gap(0, most)}, take(most), nil, done(0))
	wantStep(t, most, []api.Gap{gap(0, most)}, fit(most), nil, done(0))
	wantStep(t, most, []api.Gap{gap(0, most)}, take(most-1), []api.Gap{gap(most-1, 1)}, done(0))
	wantStep(t, 9, nil, take(1), nil, failed(api.ErrFull))
	wantStep(t, 9, []api.Gap{}, fit(9), nil, failed(api.ErrFull))
}

func TestStepGives(t *testing.T) {
	l := []api.Gap{gap(2, 2), gap(6, 3), gap(12, 1)}
	// Beside no gap, behind one, before one and between two.
	wantStep(t, 15, l, give(0, 1), []api.Gap{gap(0, 1), gap(2, 2), gap(6, 3), gap(12, 1)}, done(0))
	wantStep(t, 15, l, give(10, 1), []api.Gap{gap(2, 2), gap(6, 3), gap(10, 1), gap(12, 1)}, done(10))
	wantStep(t, 15, l, give(14, 1), []api.Gap{gap(2, 2), gap(6, 3), gap(12, 1), gap(14, 1)}, done(14))
	wantStep(t, 15, l, give(4, 1), []api.Gap{gap(2, 3), gap(6, 3), gap(12, 1)}, done(4))
	wantStep(t, 15, l, give(13, 2), []api.Gap{gap(2, 2), gap(6, 3), gap(12, 3)}, done(13))
	wantStep(t, 15, l, give(5, 1), []api.Gap{gap(2, 2), gap(5, 4), gap(12, 1)}, done(5))
	wantStep(t, 15, l, give(0, 2), []api.Gap{gap(0, 4), gap(6, 3), gap(12, 1)}, done(0))
	wantStep(t, 15, l, give(4, 2), []api.Gap{gap(2, 7), gap(12, 1)}, done(4))
	wantStep(t, 15, l, give(9, 3), []api.Gap{gap(2, 2), gap(6, 7)}, done(9))
	wantStep(t, 15, nil, give(0, 15), []api.Gap{gap(0, 15)}, done(0))
	wantStep(t, 15, nil, give(3, 5), []api.Gap{gap(3, 5)}, done(3))
	wantStep(t, most, nil, give(most-1, 1), []api.Gap{gap(most-1, 1)}, done(most-1))
	wantStep(t, most, nil, give(0, most), []api.Gap{gap(0, most)}, done(0))
	// A part of what is given is free.
	for _, held := range []api.SpaceOp{give(2, 1), give(3, 1), give(7, 1), give(12, 1), give(1, 2), give(3, 3), give(4, 3), give(11, 2), give(12, 2), give(0, 15), give(8, 7)} {
		wantStep(t, 15, l, held, nil, failed(api.ErrHeld))
	}
}

// All free blocks of small devices, and all that may be done to them.
func TestStepSmallDevices(t *testing.T) {
	for size := range 7 {
		for bits := range 1 << size {
			d := make(plainDevice, size)
			for block := range d {
				d[block] = bits>>block&1 == 1
			}
			l := d.gaps()
			for n := range 5 * 9 * 10 {
				wantPlainStep(t, size, l, api.SpaceOp{Kind: n % 5, At: n/5%9 - 1, Many: n/45 - 1})
			}
		}
	}
}

func TestStepWrongForm(t *testing.T) {
	// Whatever the operation is, this is the first error.
	wrong := func(size int, l []api.Gap) {
		t.Helper()
		for _, o := range []api.SpaceOp{take(1), fit(2), give(1, 1), take(0), fit(99), give(-1, 1), give(0, 1), {}, {Kind: 4, Many: 1}, {Kind: -1}} {
			wantStep(t, size, l, o, nil, failed(api.ErrForm))
		}
	}
	right := []api.Gap{gap(0, 1), gap(5, 5)}
	for _, size := range wrongNumbers() {
		wrong(size, nil)
		wrong(size, right)
	}
	for size := range 10 {
		wrong(size, right)
	}
	wrong(0, []api.Gap{gap(0, 1)})
	wrong(most-1, []api.Gap{gap(0, most)})
	wrong(10, []api.Gap{gap(0, 2), gap(2, 1)})
	wrong(10, []api.Gap{gap(5, 1), gap(0, 1)})
	wrong(10, []api.Gap{gap(5, 0)})
	wrong(10, []api.Gap{gap(-1, 3)})
	wrong(most, []api.Gap{gap(0, most+1)})

	wantStep(t, 10, right, take(1), []api.Gap{gap(5, 5)}, done(0))
	wantStep(t, most, right, take(1), []api.Gap{gap(5, 5)}, done(0))
}

func TestStepOrderOfErrors(t *testing.T) {
	l := []api.Gap{gap(2, 2)}
	for _, kind := range []int{-1, 0, 4, 5, 1 << 32, 1<<32 + 1, math.MinInt, math.MaxInt} {
		for _, n := range append(wrongNumbers(), 0, 1, 3) {
			wantStep(t, 10, l, api.SpaceOp{Kind: kind, At: n, Many: 1}, nil, failed(api.ErrKind))
			wantStep(t, 10, l, api.SpaceOp{Kind: kind, At: 1, Many: n}, nil, failed(api.ErrKind))
		}
	}
	for _, many := range append(wrongNumbers(), 0, 11) {
		for _, at := range append(wrongNumbers(), 0, 2, 3) {
			for kind := 1; kind <= 3; kind++ {
				wantStep(t, 10, l, api.SpaceOp{Kind: kind, At: at, Many: many}, nil, failed(api.ErrRange))
				wantStep(t, 10, nil, api.SpaceOp{Kind: kind, At: at, Many: many}, nil, failed(api.ErrRange))
			}
		}
	}
	// Blocks that are not there count before those that are free.
	for _, at := range append(wrongNumbers(), 10, 11) {
		wantStep(t, 10, l, give(at, 1), nil, failed(api.ErrRange))
		wantStep(t, 10, l, give(at, 10), nil, failed(api.ErrRange))
	}
	wantStep(t, 10, l, give(-1, 5), nil, failed(api.ErrRange))
	wantStep(t, 10, l, give(2, 9), nil, failed(api.ErrRange))
	wantStep(t, 10, l, give(1, 10), nil, failed(api.ErrRange))
	wantStep(t, 10, l, give(0, 10), nil, failed(api.ErrHeld))
	for kind := 1; kind <= 3; kind++ {
		wantStep(t, 0, nil, api.SpaceOp{Kind: kind}, nil, failed(api.ErrRange))
		wantStep(t, 0, nil, api.SpaceOp{Kind: kind, Many: 1}, nil, failed(api.ErrRange))
	}
}

// What is taken is found by itself, wherever At says.
func TestAtIsIgnored(t *testing.T) {
	l := []api.Gap{gap(0, 3), gap(6, 2)}
	for _, at := range append(wrongNumbers(), 0, 1, 6, 9) {
		wantStep(t, 10, l, api.SpaceOp{Kind: 1, At: at, Many: 2}, []api.Gap{gap(2, 1), gap(6, 2)}, done(0))
		wantStep(t, 10, l, api.SpaceOp{Kind: 2, At: at, Many: 2}, []api.Gap{gap(0, 3)}, done(6))
		wantStep(t, 10, l, api.SpaceOp{Kind: 2, At: at, Many: 4}, nil, failed(api.ErrFull))
	}
}

func TestPlayExample(t *testing.T) {
	for _, kind := range []int{1, 2} {
		ops := []api.SpaceOp{take(3), take(2), give(0, 3), {Kind: kind, Many: 4}}
		wantPlay(t, 9, ops, []api.SpaceAns{done(0), done(3), done(0), done(5)}, []api.Gap{gap(0, 3)}, api.OK)
		wantPlay(t, 8, ops, []api.SpaceAns{done(0), done(3), done(0), failed(api.ErrFull)}, []api.Gap{gap(0, 3), gap(5, 3)}, api.OK)
		wantPlay(t, 12, ops, []api.SpaceAns{done(0), done(3), done(0), done(5)}, []api.Gap{gap(0, 3), gap(9, 3)}, api.OK)
	}
}

func TestPlaySizes(t *testing.T) {
	for _, size := range wrongNumbers() {
		wantPlay(t, size, nil, nil, nil, api.ErrRange)
		wantPlay(t, size, []api.SpaceOp{take(1), {}}, nil, nil, api.ErrRange)
	}
	for _, size := range []int{1, 2, 3, most - 1, most} {
		wantPlay(t, size, nil, nil, []api.Gap{gap(0, size)}, api.OK)
		wantPlay(t, size, []api.SpaceOp{}, nil, []api.Gap{gap(0, size)}, api.OK)
		wantPlay(t, size, []api.SpaceOp{take(size)}, []api.SpaceAns{done(0)}, nil, api.OK)
		wantPlay(t, size, []api.SpaceOp{fit(size + 1)}, []api.SpaceAns{failed(api.ErrRange)}, []api.Gap{gap(0, size)}, api.OK)
		wantPlay(t, size, []api.SpaceOp{give(0, 1)}, []api.SpaceAns{failed(api.ErrHeld)}, []api.Gap{gap(0, size)}, api.OK)
	}
	wantPlay(t, 0, nil, nil, nil, api.OK)
	wantPlay(t, 0, []api.SpaceOp{take(0), fit(1), give(0, 0), {}}, []api.SpaceAns{
		failed(api.ErrRange), failed(api.ErrRange), failed(api.ErrRange), failed(api.ErrKind),
	}, nil, api.OK)
}

// wrongOps are operations with each error on a device of 10 blocks, of which
// those from 4 to 6 are free.
func wrongOps() []api.SpaceOp {
	return []api.SpaceOp{
		{}, {Kind: 4, Many: 1}, take(0), take(11), fit(-1), fit(math.MaxInt), take(4), fit(10), give(-1, 1), give(10, 1),
		give(math.MaxInt, 1), give(math.MaxInt, 10), give(9, 2), give(4, 1), give(3, 2), give(6, 2), give(0, 10), give(1, 0),
	}
}

func TestErrorsHaveNoEffect(t *testing.T) {
	ops := []api.SpaceOp{take(4), take(3), take(3), give(4, 3)}
	answers := []api.SpaceAns{done(0), done(4), done(7), done(4)}
	l := []api.Gap{gap(4, 3)}
	wantPlay(t, 10, ops, answers, l, api.OK)
	for _, wrong := range wrongOps() {
		got, ans := Step(10, l, wrong)
		if len(got) > 0 || ans.Err == api.OK || ans.At != 0 {
			t.Errorf("Step(10, %v, %v) is %v and %v", l, wrong, got, ans)
		}
		ops, answers = append(ops, wrong), append(answers, ans)
	}
	wantPlay(t, 10, ops, answers, l, api.OK)
	ops, answers = append(ops, fit(3)), append(answers, done(4))
	wantPlay(t, 10, ops, answers, nil, api.OK)
}

// mixedOps returns n operations of a few blocks each, at most wide, on a
// device with size blocks.
func mixedOps(size, wide, n, seed int) []api.SpaceOp {
	x := mixed(3*n, seed)
	ops := make([]api.SpaceOp, n)
	for k := range ops {
		kind := 1 + x[3*k]%4
		// Half of the operations give, as each takes back what another took.
		ops[k] = api.SpaceOp{Kind: min(kind, 3), At: x[3*k+1] % size, Many: 1 + x[3*k+2]%wide}
	}
	return ops
}

func TestPlayMixed(t *testing.T) {
	for seed := range 60 {
		wantPlainPlay(t, 1+seed, mixedOps(1+seed, 1+seed%7, 200, seed))
	}
	wantPlainPlay(t, 300, mixedOps(300, 5, 3000, 7))
	wantPlainPlay(t, most, mixedOps(most, 9, 1000, 8))
}

// Play does what Step does, one operation behind the other.
func TestPlayIsSteps(t *testing.T) {
	for seed := range 40 {
		size := 5 + seed
		ops := append(mixedOps(size, 4, 100, seed), wrongOps()...)
		l := []api.Gap{gap(0, size)}
		var answers []api.SpaceAns
		for _, o := range ops {
			next, ans := Step(size, l, o)
			answers = append(answers, ans)
			if ans.Err == api.OK {
				l = next
			}
			wantRight(t, l, true)
		}
		wantPlay(t, size, ops, answers, l, api.OK)
	}
}

// What was taken has no block in common, and given back in any order it is
// one gap again.
func TestSpaceIsReturnedIntact(t *testing.T) {
	for seed := range 30 {
		size := 50 + 10*seed
		var taken []api.Gap
		l := []api.Gap{gap(0, size)}
		free := size
		for _, n := range mixed(3*size, seed) {
			o := api.SpaceOp{Kind: 1 + n%2, Many: 1 + n/2%5}
			next, ans := Step(size, l, o)
			if ans.Err != api.OK {
				continue
			}
			l, taken, free = next, append(taken, gap(ans.At, o.Many)), free-o.Many
		}
		if free > 0 || len(l) > 0 {
			t.Fatalf("%d blocks are free, with the gaps %s", free, shortened(l))
		}
		wantGivenBack(t, size, taken, seed)
	}
}

// wantGivenBack checks that the parts taken are all blocks of a device, each
// once, and gives them back, mixed up.
func wantGivenBack(t *testing.T, size int, taken []api.Gap, seed int) {
	t.Helper()
	x := mixed(len(taken), seed+100)
	for k := range taken {
		other := x[k] % len(taken)
		taken[k], taken[other] = taken[other], taken[k]
	}
	d := make(plainDevice, size)
	var l []api.Gap
	for _, g := range taken {
		if ans := d.plainGive(g); ans.Err != api.OK {
			t.Fatalf("%v was taken twice", g)
		}
		wantStep(t, size, l, give(g.At, g.Many), d.gaps(), done(g.At))
		l, _ = Step(size, l, give(g.At, g.Many))
	}
	if !slices.Equal(l, []api.Gap{gap(0, size)}) {
		t.Errorf("all is given back, and the gaps are %s", shortened(l))
	}
}

// There is no limit to how many operations there are.
func TestPlayManyOps(t *testing.T) {
	const rounds = 30000
	var ops []api.SpaceOp
	var answers []api.SpaceAns
	for range rounds {
		ops = append(ops, take(2), fit(3), give(0, 2), give(2, 3))
		answers = append(answers, done(0), done(2), done(0), done(2))
	}
	wantPlay(t, 9, ops, answers, []api.Gap{gap(0, 9)}, api.OK)
}

func TestArgumentsStayAsTheyAre(t *testing.T) {
	gaps := []api.Gap{gap(2, 2), gap(6, 3), gap(12, 1), gap(77, 7), gap(88, 8)}
	gapsBefore := slices.Clone(gaps)
	for _, o := range append(mixedOps(15, 3, 200, 1), give(4, 2), give(0, 1), give(0, 15), take(0)) {
		Step(15, gaps[:3], o)
		Right(gaps[:3])
		if !slices.Equal(gaps, gapsBefore) {
			t.Fatalf("Step(15, %v, %v) changed the gaps, which are %v now", gapsBefore[:3], o, gaps)
		}
	}
	ops := mixedOps(15, 3, 50, 2)
	opsBefore := slices.Clone(ops)
	Play(15, ops[:40])
	if !slices.Equal(ops, opsBefore) {
		t.Errorf("Play changed the operations, which are %s now", shortened(ops))
	}
}

func TestResultsAreNewMemory(t *testing.T) {
	for _, o := range []api.SpaceOp{take(1), fit(1), take(3), give(4, 1), give(4, 2), give(14, 1)} {
		l := []api.Gap{gap(2, 2), gap(6, 3), gap(12, 1)}
		before := slices.Clone(l)
		got, _ := Step(15, l, o)
		clear(got[:cap(got)])
		if !slices.Equal(l, before) {
			t.Errorf("the gaps that Step returns for %v are those of its argument", o)
		}
	}
	ops := []api.SpaceOp{take(3), take(2), give(0, 3)}
	answers, l, _ := Play(9, ops)
	clear(answers[:cap(answers)])
	clear(l[:cap(l)])
	againAnswers, again, err := Play(9, ops)
	if !slices.Equal(againAnswers, []api.SpaceAns{done(0), done(3), done(0)}) || !slices.Equal(again, []api.Gap{gap(0, 3), gap(5, 4)}) || err != api.OK {
		t.Errorf("Play(9, %v) is %v, %v and %d after its results have changed", ops, againAnswers, again, err)
	}
}
