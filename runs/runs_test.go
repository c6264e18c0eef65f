package runs

import (
	"fmt"
	"math"
	"slices"
	"testing"

	"flintstore/api"
)

// most is the largest value of each number of a run.
const most = 1 << 40

// run returns the run that maps many blocks, those from at on to those from
// disk on.
func run(at, disk, many int) api.Run {
	return api.Run{At: at, Disk: disk, Many: many}
}

// disks returns the disk blocks that a function maps blocks to.
type disks = func(block int) (int, bool)

// within maps as the runs of l do.
func within(l []api.Run) disks {
	return func(block int) (int, bool) {
		for _, r := range l {
			if r.At <= block && block < r.At+r.Many {
				return r.Disk + block - r.At, true
			}
		}
		return 0, false
	}
}

// plainList looks up the first block of each stretch that has no end of a run
// or of what is changed within, and makes one list of all stretches.
func plainList(points []int, find disks) ([]api.Run, api.Errno) {
	slices.Sort(points)
	var out []api.Run
	for k := range len(points) - 1 {
		from, many := points[k], points[k+1]-points[k]
		disk, ok := find(from)
		if !ok || many == 0 {
			continue
		}
		if n := len(out); n > 0 {
			if past, ok := find(from - 1); ok && past+1 == disk {
				out[n-1].Many += many
				continue
			}
		}
		out = append(out, run(from, disk, many))
	}
	for _, r := range out {
		if r.At > most || r.Disk > most || r.Many > most {
			return nil, api.ErrFull
		}
	}
	return out, api.OK
}

// ends returns where the runs of l begin and end.
func ends(l ...api.Run) []int {
	var out []int
	for _, r := range l {
		out = append(out, r.At, r.At+r.Many)
	}
	return out
}

// plainCut is what Cut must return for a valid list and numbers in the limits.
func plainCut(l []api.Run, at, many int) ([]api.Run, api.Errno) {
	points := append(ends(l...), at, at+many)
	return plainList(points, func(block int) (int, bool) {
		if at <= block && block < at+many {
			return 0, false
		}
		return within(l)(block)
	})
}

// plainPut is what Put must return for a valid list and a valid run.
func plainPut(l []api.Run, r api.Run) ([]api.Run, api.Errno) {
	points := append(ends(l...), ends(r)...)
	return plainList(points, func(block int) (int, bool) {
		if disk, ok := within([]api.Run{r})(block); ok {
			return disk, true
		}
		return within(l)(block)
	})
}

// plainRight takes the blocks one by one, for runs of few blocks.
func plainRight(l []api.Run) bool {
	last, lastDisk, of := -1, -1, -1
	for k, r := range l {
		if r.At < 0 || r.Disk < 0 || r.Many < 1 {
			return false
		}
		for n := range r.Many {
			block, disk := r.At+n, r.Disk+n
			if block <= last || k != of && of >= 0 && block == last+1 && disk == lastDisk+1 {
				return false
			}
			last, lastDisk, of = block, disk, k
		}
	}
	return true
}

// shortened tells runs, of long lists only the first ones.
func shortened(l []api.Run) string {
	if len(l) <= 12 {
		return fmt.Sprint(l)
	}
	return fmt.Sprintf("%v and %d more", l[:12], len(l)-12)
}

func wantRight(t *testing.T, l []api.Run, want bool) {
	t.Helper()
	if got := Right(l); got != want {
		t.Errorf("Right(%s) is %v", shortened(l), got)
	}
}

func wantFind(t *testing.T, l []api.Run, block, want int, wantErr api.Errno) {
	t.Helper()
	if got, err := Find(l, block); got != want || err != wantErr {
		t.Errorf("Find(%s, %d) is %d and %d, not %d and %d", shortened(l), block, got, err, want, wantErr)
	}
}

func wantCut(t *testing.T, l []api.Run, at, many int, want []api.Run, wantErr api.Errno) {
	t.Helper()
	if got, err := Cut(l, at, many); !slices.Equal(got, want) || err != wantErr {
		t.Errorf("Cut(%s, %d, %d) is %s and %d, not %s and %d", shortened(l), at, many, shortened(got), err, shortened(want), wantErr)
	}
}

func wantPut(t *testing.T, l []api.Run, r api.Run, want []api.Run, wantErr api.Errno) {
	t.Helper()
	if got, err := Put(l, r); !slices.Equal(got, want) || err != wantErr {
		t.Errorf("Put(%s, %v) is %s and %d, not %s and %d", shortened(l), r, shortened(got), err, shortened(want), wantErr)
	}
}

// wantPlainCut and wantPlainPut check a call against the chapter.
func wantPlainCut(t *testing.T, l []api.Run, at, many int) {
	t.Helper()
	want, err := plainCut(l, at, many)
	wantCut(t, l, at, many, want, err)
}

func wantPlainPut(t *testing.T, l []api.Run, r api.Run) {
	t.Helper()
	want, err := plainPut(l, r)
	wantPut(t, l, r, want, err)
}

// mixed returns n numbers that look mixed up, the same ones each time.
func mixed(n, seed int) []int {
	x := uint64(seed)*2654435761 + 12345
	out := make([]int, n)
	for k := range out {
		x = x*6364136223846793005 + 1442695040888963407
		out[k] = int(x >> 33)
	}
	return out
}

func TestRightKnownLists(t *testing.T) {
	for _, l := range [][]api.Run{
		nil,
		{},
		{run(0, 0, 1)},
		{run(3, 9, 4)},
		{run(0, 5, 2), run(9, 1, 1)},
		// With a gap in the file, on the disk or in both.
		{run(0, 5, 2), run(3, 7, 2)},
		{run(0, 5, 2), run(2, 8, 2)},
		{run(0, 5, 2), run(3, 8, 2)},
		// The same disk blocks, or those before them.
		{run(0, 5, 2), run(2, 5, 2)},
		{run(0, 5, 2), run(2, 6, 2)},
		{run(0, 5, 2), run(2, 3, 2)},
		// What goes on on the disk behind a run between is no continuation.
		{run(0, 5, 2), run(2, 50, 1), run(3, 7, 2)},
		{run(most, most, most)},
		{run(0, 0, most), run(most, 0, most)},
		{run(0, most, most), run(most, most, most)},
	} {
		wantRight(t, l, true)
	}
	for _, l := range [][]api.Run{
		{run(0, 5, 2), run(2, 7, 2)},
		{run(0, 5, 2), run(1, 7, 2)},
		{run(0, 5, 2), run(1, 6, 1)},
		{run(0, 5, 2), run(0, 5, 2)},
		{run(2, 5, 2), run(0, 7, 2)},
		{run(2, 5, 2), run(0, 1, 1)},
		{run(0, 5, 2), run(9, 1, 1), run(5, 1, 1)},
		{run(0, 5, 2), run(9, 1, 1), run(10, 2, 1)},
		{run(0, 0, most), run(most, most, 1)},
		{run(0, 0, most), run(most-1, 5, 1)},
	} {
		wantRight(t, l, false)
	}
}

// wrongRuns are runs that are not valid by themselves.
func wrongRuns() []api.Run {
	out := []api.Run{{}}
	for _, n := range []int{-1, -2, most + 1, most + 2, -most, 2 * most, math.MinInt, math.MaxInt} {
		out = append(out, run(n, 7, 2), run(7, n, 2), run(7, 7, n), run(n, n, n))
	}
	return append(out, run(7, 7, 0), run(math.MaxInt, 7, math.MaxInt), run(7, math.MaxInt, math.MaxInt))
}

func TestWrongRuns(t *testing.T) {
	right := []api.Run{run(0, 9, 2), run(20, 3, 1)}
	for _, wrong := range wrongRuns() {
		wantPut(t, right, wrong, nil, api.ErrForm)
		wantPut(t, nil, wrong, nil, api.ErrForm)
		for at := range len(right) + 1 {
			wantWrong(t, slices.Insert(slices.Clone(right), at, wrong))
		}
		wantWrong(t, []api.Run{wrong})
	}
	wantWrong(t, []api.Run{run(0, 5, 2), run(2, 7, 2)})
	wantWrong(t, []api.Run{run(2, 5, 2), run(0, 5, 1)})
}

// wantWrong checks that no function takes l, and that this is the first error.
func wantWrong(t *testing.T, l []api.Run) {
	t.Helper()
	wantRight(t, l, false)
	for _, n := range []int{0, 1, 7, 20, -1, 50, math.MinInt, math.MaxInt} {
		wantFind(t, l, n, 0, api.ErrForm)
		wantCut(t, l, n, 1, nil, api.ErrForm)
		wantCut(t, l, 1, n, nil, api.ErrForm)
	}
	wantPut(t, l, run(3, 4, 1), nil, api.ErrForm)
	wantPut(t, l, run(0, 0, most), nil, api.ErrForm)
	wantPut(t, l, run(-1, 4, 1), nil, api.ErrForm)
}

func TestFindKnownBlocks(t *testing.T) {
	l := []api.Run{run(2, 9, 3), run(5, 20, 2), run(9, 0, 1), run(most, most, most)}
	for block, want := range map[int]int{2: 9, 3: 10, 4: 11, 5: 20, 6: 21, 9: 0, most: most, most + 1: most + 1, 2*most - 1: 2*most - 1} {
		wantFind(t, l, block, want, api.OK)
	}
	for _, block := range []int{-1, 0, 1, 7, 8, 10, most - 1, 2 * most, 2*most + 1, math.MinInt, math.MaxInt, -most} {
		wantFind(t, l, block, 0, api.ErrNone)
		wantFind(t, nil, block, 0, api.ErrNone)
	}
	wantFind(t, []api.Run{}, 0, 0, api.ErrNone)
	wantFind(t, []api.Run{run(0, 0, 1)}, math.MinInt, 0, api.ErrNone)
	wantFind(t, []api.Run{run(0, 0, 1)}, 0, 0, api.OK)
}

func TestCutKnownLists(t *testing.T) {
	one := []api.Run{run(10, 50, 6)}
	// The example of the chapter.
	wantCut(t, one, 12, 2, []api.Run{run(10, 50, 2), run(14, 54, 2)}, api.OK)
	wantCut(t, one, 10, 2, []api.Run{run(12, 52, 4)}, api.OK)
	wantCut(t, one, 14, 2, []api.Run{run(10, 50, 4)}, api.OK)
	wantCut(t, one, 15, 9, []api.Run{run(10, 50, 5)}, api.OK)
	wantCut(t, one, 0, 11, []api.Run{run(11, 51, 5)}, api.OK)
	wantCut(t, one, 10, 6, nil, api.OK)
	wantCut(t, one, 0, most, nil, api.OK)
	wantCut(t, one, 9, 8, nil, api.OK)
	// Nothing to cut.
	wantCut(t, one, 0, 10, one, api.OK)
	wantCut(t, one, 16, 10, one, api.OK)
	wantCut(t, one, most, most, one, api.OK)
	wantCut(t, nil, 0, 1, nil, api.OK)
	wantCut(t, []api.Run{}, 5, 3, nil, api.OK)

	l := []api.Run{run(2, 9, 3), run(5, 20, 2), run(9, 24, 4)}
	wantCut(t, l, 3, 3, []api.Run{run(2, 9, 1), run(6, 21, 1), run(9, 24, 4)}, api.OK)
	wantCut(t, l, 4, 6, []api.Run{run(2, 9, 2), run(10, 25, 3)}, api.OK)
	wantCut(t, l, 5, 2, []api.Run{run(2, 9, 3), run(9, 24, 4)}, api.OK)
	wantCut(t, l, 2, 11, nil, api.OK)
}

func TestCutLimits(t *testing.T) {
	l := []api.Run{run(0, 9, 3)}
	for _, n := range []int{-1, -2, most + 1, 2 * most, -most, math.MinInt, math.MaxInt} {
		for _, list := range [][]api.Run{nil, l} {
			wantCut(t, list, n, 1, nil, api.ErrRange)
			wantCut(t, list, 1, n, nil, api.ErrRange)
			wantCut(t, list, n, n, nil, api.ErrRange)
			wantCut(t, list, n, 0, nil, api.ErrRange)
			wantCut(t, list, 1, 0, nil, api.ErrRange)
		}
	}
	wantCut(t, l, most, 1, l, api.OK)
	wantCut(t, l, 2, most, []api.Run{run(0, 9, 2)}, api.OK)
	wantCut(t, l, 0, 1, []api.Run{run(1, 10, 2)}, api.OK)
}

// What is left must begin within the limits, in the file and on the disk.
func TestCutLeavesNothingValid(t *testing.T) {
	wantCut(t, []api.Run{run(most, 0, 2)}, most, 1, nil, api.ErrFull)
	wantCut(t, []api.Run{run(most-1, 0, 3)}, most, 1, nil, api.ErrFull)
	wantCut(t, []api.Run{run(most-1, 0, 3)}, most-1, 1, []api.Run{run(most, 1, 2)}, api.OK)
	wantCut(t, []api.Run{run(most, 0, 2)}, most, 2, nil, api.OK)
	wantCut(t, []api.Run{run(0, most, 2)}, 0, 1, nil, api.ErrFull)
	wantCut(t, []api.Run{run(0, most-1, 3)}, 1, 1, nil, api.ErrFull)
	wantCut(t, []api.Run{run(0, most-1, 3)}, 0, 1, []api.Run{run(1, most, 2)}, api.OK)
	wantCut(t, []api.Run{run(0, most, 2)}, 1, 1, []api.Run{run(0, most, 1)}, api.OK)
	wantCut(t, []api.Run{run(0, most, 2), run(5, 1, 1)}, 0, 1, nil, api.ErrFull)
	wantCut(t, []api.Run{run(0, 1, 1), run(5, most, 2)}, 5, 1, nil, api.ErrFull)
	// A wrong number is found first.
	wantCut(t, []api.Run{run(0, most, 2)}, 0, 0, nil, api.ErrRange)
}

func TestPutKnownLists(t *testing.T) {
	r := run(10, 50, 4)
	wantPut(t, nil, r, []api.Run{r}, api.OK)
	wantPut(t, []api.Run{}, r, []api.Run{r}, api.OK)
	wantPut(t, []api.Run{r}, r, []api.Run{r}, api.OK)
	// Beside another run, which it continues or not.
	wantPut(t, []api.Run{run(8, 1, 2)}, r, []api.Run{run(8, 1, 2), r}, api.OK)
	wantPut(t, []api.Run{run(8, 48, 2)}, r, []api.Run{run(8, 48, 6)}, api.OK)
	wantPut(t, []api.Run{run(7, 48, 2)}, r, []api.Run{run(7, 48, 2), r}, api.OK)
	wantPut(t, []api.Run{run(14, 54, 2)}, r, []api.Run{run(10, 50, 6)}, api.OK)
	wantPut(t, []api.Run{run(14, 53, 2)}, r, []api.Run{r, run(14, 53, 2)}, api.OK)
	wantPut(t, []api.Run{run(15, 54, 2)}, r, []api.Run{r, run(15, 54, 2)}, api.OK)
	wantPut(t, []api.Run{run(8, 48, 2), run(14, 54, 3)}, r, []api.Run{run(8, 48, 9)}, api.OK)
	// Over other runs, with what is left of them.
	wantPut(t, []api.Run{run(8, 1, 9)}, r, []api.Run{run(8, 1, 2), r, run(14, 7, 3)}, api.OK)
	wantPut(t, []api.Run{run(8, 48, 9)}, r, []api.Run{run(8, 48, 9)}, api.OK)
	wantPut(t, []api.Run{run(8, 1, 3), run(13, 1, 2)}, r, []api.Run{run(8, 1, 2), r, run(14, 2, 1)}, api.OK)
	wantPut(t, []api.Run{run(8, 48, 3), run(13, 53, 2)}, r, []api.Run{run(8, 48, 7)}, api.OK)
	wantPut(t, []api.Run{run(10, 1, 1), run(11, 7, 1), run(13, 2, 1)}, r, []api.Run{r}, api.OK)
	wantPut(t, []api.Run{run(0, 1, 1), run(12, 7, 1), run(30, 2, 1)}, r, []api.Run{run(0, 1, 1), r, run(30, 2, 1)}, api.OK)
}

func TestPutLimits(t *testing.T) {
	wantPut(t, nil, run(0, 0, 1), []api.Run{run(0, 0, 1)}, api.OK)
	wantPut(t, nil, run(most, most, most), []api.Run{run(most, most, most)}, api.OK)
	// A run may not become too long.
	wantPut(t, []api.Run{run(0, 0, most)}, run(most, most, 1), nil, api.ErrFull)
	wantPut(t, []api.Run{run(0, 0, most-1)}, run(most-1, most-1, 1), []api.Run{run(0, 0, most)}, api.OK)
	wantPut(t, []api.Run{run(0, 0, most)}, run(most, most, most), nil, api.ErrFull)
	wantPut(t, []api.Run{run(0, 0, most)}, run(most, most-1, 1), []api.Run{run(0, 0, most), run(most, most-1, 1)}, api.OK)
	wantPut(t, []api.Run{run(1, 1, most)}, run(0, 0, 1), nil, api.ErrFull)
	wantPut(t, []api.Run{run(0, 0, 1), run(2, 2, most-1)}, run(1, 1, 1), nil, api.ErrFull)
	wantPut(t, []api.Run{run(0, 0, 1), run(2, 2, most-2)}, run(1, 1, 1), []api.Run{run(0, 0, most)}, api.OK)
	// What is left behind it must begin within the limits.
	wantPut(t, []api.Run{run(most, 0, 2)}, run(most, 5, 1), nil, api.ErrFull)
	wantPut(t, []api.Run{run(0, most, 2)}, run(0, 5, 1), nil, api.ErrFull)
	// Unless it is a part of the new run.
	wantPut(t, []api.Run{run(most, 0, 2)}, run(most, 0, 1), []api.Run{run(most, 0, 2)}, api.OK)
	wantPut(t, []api.Run{run(most-1, 0, 3)}, run(most, 1, 1), []api.Run{run(most-1, 0, 3)}, api.OK)
	wantPut(t, []api.Run{run(0, most, 2)}, run(0, most, 1), []api.Run{run(0, most, 2)}, api.OK)
	wantPut(t, []api.Run{run(0, most-1, 4)}, run(1, most, 1), []api.Run{run(0, most-1, 4)}, api.OK)
}

// smallRuns are runs of one to three blocks that may touch or overlap.
func smallRuns() []api.Run {
	var out []api.Run
	for at := range 5 {
		for disk := range 4 {
			for many := 1; many <= 3; many++ {
				out = append(out, run(at, disk, many))
			}
		}
	}
	return out
}

// All lists of up to three small runs, and for the valid ones all that may be
// done to them.
func TestSmallLists(t *testing.T) {
	lists := [][]api.Run{nil}
	for round := range 4 {
		var longer [][]api.Run
		for _, l := range lists {
			wantRight(t, l, plainRight(l))
			if plainRight(l) {
				wantPlainSmall(t, l)
			}
			for _, r := range smallRuns() {
				if round < 3 {
					longer = append(longer, append(slices.Clip(l), r))
				}
			}
		}
		lists = longer
	}
}

func wantPlainSmall(t *testing.T, l []api.Run) {
	t.Helper()
	for at := range 8 {
		if disk, ok := within(l)(at); ok {
			wantFind(t, l, at, disk, api.OK)
		} else {
			wantFind(t, l, at, 0, api.ErrNone)
		}
		for many := 1; many <= 4; many++ {
			wantPlainCut(t, l, at, many)
		}
	}
	for _, r := range smallRuns() {
		wantPlainPut(t, l, r)
	}
}

// All valid lists of up to two runs with numbers that are very small or very
// large.
func TestNumbersAtTheLimits(t *testing.T) {
	var runs []api.Run
	for _, at := range []int{0, 1, most - 1, most} {
		for _, disk := range []int{0, most - 1, most} {
			for _, many := range []int{1, 2, most - 1, most} {
				runs = append(runs, run(at, disk, many))
			}
		}
	}
	for _, a := range runs {
		wantPlainAtLimits(t, []api.Run{a}, runs)
		for _, b := range runs {
			if l := []api.Run{a, b}; Right(l) {
				wantPlainAtLimits(t, l, runs)
			}
		}
	}
}

func wantPlainAtLimits(t *testing.T, l, others []api.Run) {
	t.Helper()
	for _, r := range others {
		wantPlainCut(t, l, r.At, r.Many)
		wantPlainPut(t, l, r)
	}
}

// However blocks are put and cut, the lists stay valid, and map what they must
// block by block.
func TestManyChanges(t *testing.T) {
	for seed := range 300 {
		var l []api.Run
		var blocks [24]int
		for k := 0; k < 40; k++ {
			n := mixed(4, 100*seed+k)
			at, disk, many := n[0]%20, n[1]%8, 1+n[2]%4
			// On the diagonal, runs often continue others.
			if n[3]%2 == 0 {
				disk = at
			}
			var err api.Errno
			if n[3]%5 == 0 {
				l, err = Cut(l, at, many)
			} else {
				l, err = Put(l, run(at, disk, many))
			}
			for b := range many {
				blocks[at+b] = disk + b + 1
				if n[3]%5 == 0 {
					blocks[at+b] = 0
				}
			}
			if err != api.OK || !plainRight(l) {
				t.Fatalf("with seed %d, %v and %d come", seed, l, err)
			}
			wantBlocks(t, l, blocks[:])
		}
	}
}

// wantBlocks checks that l maps to blocks, which are one too large, or 0 for
// those that are not mapped.
func wantBlocks(t *testing.T, l []api.Run, blocks []int) {
	t.Helper()
	for b, disk := range blocks {
		if disk == 0 {
			wantFind(t, l, b, 0, api.ErrNone)
		} else {
			wantFind(t, l, b, disk-1, api.OK)
		}
	}
}

// With the same blocks mapped there is only one list, in whatever order they
// came.
func TestOneListForTheSameBlocks(t *testing.T) {
	want := []api.Run{run(0, 40, 12), run(20, 3, 4)}
	for seed := range 200 {
		left := []int{0, 1, 2, 3, 4, 5, 6, 7, 8, 9, 10, 11, 20, 21, 22, 23}
		var l []api.Run
		for _, n := range mixed(len(left), seed) {
			at := n % len(left)
			block := left[at]
			left = slices.Delete(left, at, at+1)
			disk, _ := within(want)(block)
			var err api.Errno
			if l, err = Put(l, run(block, disk, 1)); err != api.OK {
				t.Fatalf("Put of block %d fails with %d", block, err)
			}
		}
		if !slices.Equal(l, want) {
			t.Fatalf("with seed %d, %v comes, not %v", seed, l, want)
		}
	}
}

// Long lists, which may not take long.
func TestLongLists(t *testing.T) {
	const many = 200_000
	l := make([]api.Run, many)
	for k := range l {
		l[k] = run(3*k, 7*k, 2)
	}
	wantRight(t, l, true)
	wantFind(t, l, 3*many-2, 7*many-6, api.OK)
	wantFind(t, l, 3*many-1, 0, api.ErrNone)
	wantCut(t, l, 0, 3*many, nil, api.OK)
	wantCut(t, l, 1, 3*many-4, []api.Run{run(0, 0, 1), run(3*many-3, 7*many-7, 2)}, api.OK)
	wantCut(t, l, 3*many-2, 1, append(slices.Clone(l[:many-1]), run(3*many-3, 7*many-7, 1)), api.OK)
	wantPut(t, l, run(2, 2, 1), slices.Concat([]api.Run{run(0, 0, 3)}, l[1:]), api.OK)
	wantPut(t, l, run(0, 5, 3*many), []api.Run{run(0, 5, 3*many)}, api.OK)
}

func TestArgumentsStayAsTheyAre(t *testing.T) {
	all := []api.Run{run(0, 5, 3), run(3, 20, 2), run(8, 25, 4), run(12, 1, 1), run(20, 9, 2)}
	before := slices.Clone(all)
	for n := range len(all) + 1 {
		// The rest of the list is spare capacity, which doesn't count.
		l := all[:n]
		for at := range 24 {
			wantPlainCut(t, l, at, 2)
			wantPlainPut(t, l, run(at, at+5, 2))
			wantPlainPut(t, l, run(at, at+17, 3))
		}
		Find(l, 4)
		Cut(l, -1, 2)
		Put(l, run(-1, 2, 3))
		if !slices.Equal(all, before) {
			t.Fatalf("%v was changed to %v", before, all)
		}
	}
}

func TestResultsAreNewMemory(t *testing.T) {
	l := []api.Run{run(0, 5, 3), run(5, 20, 2), run(9, 25, 4)}
	before := slices.Clone(l)
	var results [][]api.Run
	for at := range 14 {
		cut, _ := Cut(l, at, 1)
		put, _ := Put(l, run(at, 5+at, 1))
		results = append(results, cut, put)
	}
	for _, r := range results {
		// The spare capacity of a result belongs to the caller too.
		r = r[:cap(r)]
		for k := range r {
			r[k] = run(-1, -1, -1)
		}
	}
	if !slices.Equal(l, before) {
		t.Fatalf("changes of results change %v to %v", before, l)
	}
}
