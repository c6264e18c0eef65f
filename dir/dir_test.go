package dir

import (
	"fmt"
	"math"
	"slices"
	"strings"
	"testing"

	"flintstore/api"
)

// longest is how many bytes a name may have.
const longest = 12

// entry returns the entry of a name, with some Id that tells it from others.
func entry(name string) api.Entry {
	id := 7
	for k := range len(name) {
		id = 31*id + int(name[k])
	}
	return api.Entry{Name: name, Id: id}
}

// list returns the entries of the names, in the order given.
func list(names ...string) []api.Entry {
	var out []api.Entry
	for _, name := range names {
		out = append(out, entry(name))
	}
	return out
}

// plainGood looks at the bytes one by one.
func plainGood(name string) bool {
	for k := range len(name) {
		if name[k] == '/' || name[k] == 0 {
			return false
		}
	}
	return len(name) >= 1 && len(name) <= 12 && name != "." && name != ".."
}

// plainDir has the Ids of the entries by their names.
type plainDir map[string]int

// list puts each name behind all that are smaller.
func (d plainDir) list() []api.Entry {
	var out []api.Entry
	for name, id := range d {
		at := 0
		for at < len(out) && plainLess(out[at].Name, name) {
			at++
		}
		out = slices.Insert(out, at, api.Entry{Name: name, Id: id})
	}
	return out
}

// plainLess compares byte by byte.
func plainLess(a, b string) bool {
	for k := range min(len(a), len(b)) {
		if a[k] != b[k] {
			return a[k] < b[k]
		}
	}
	return len(a) < len(b)
}

// plainOf returns the directory with the list l, if there is one.
func plainOf(l []api.Entry) (plainDir, bool) {
	d := plainDir{}
	for _, e := range l {
		if !plainGood(e.Name) {
			return nil, false
		}
		d[e.Name] = e.Id
	}
	return d, slices.Equal(d.list(), l)
}

// shortened tells entries, of long lists only the first ones.
func shortened(l []api.Entry) string {
	var out []string
	for k, e := range l {
		if k == 12 {
			out = append(out, fmt.Sprintf("and %d more", len(l)-12))
			break
		}
		out = append(out, fmt.Sprintf("%.40q:%d", e.Name, e.Id))
	}
	return "[" + strings.Join(out, " ") + "]"
}

func wantGood(t *testing.T, name string, want bool) {
	t.Helper()
	if got := Good(name); got != want {
		t.Errorf("Good(%.40q) of %d bytes is %v", name, len(name), got)
	}
}

func wantRight(t *testing.T, l []api.Entry, want bool) {
	t.Helper()
	if got := Right(l); got != want {
		t.Errorf("Right(%s) is %v", shortened(l), got)
	}
}

func wantFind(t *testing.T, l []api.Entry, name string, want int, wantErr api.Errno) {
	t.Helper()
	if got, err := Find(l, name); got != want || err != wantErr {
		t.Errorf("Find(%s, %.40q) is %d and %d, not %d and %d", shortened(l), name, got, err, want, wantErr)
	}
}

func wantAdd(t *testing.T, l []api.Entry, e api.Entry, want []api.Entry, wantErr api.Errno) {
	t.Helper()
	if got, err := Add(l, e); !slices.Equal(got, want) || err != wantErr {
		t.Errorf("Add(%s, %.40q:%d) is %s and %d, not %s and %d", shortened(l), e.Name, e.Id, shortened(got), err, shortened(want), wantErr)
	}
}

func wantRemove(t *testing.T, l []api.Entry, name string, want []api.Entry, wantErr api.Errno) {
	t.Helper()
	if got, err := Remove(l, name); !slices.Equal(got, want) || err != wantErr {
		t.Errorf("Remove(%s, %.40q) is %s and %d, not %s and %d", shortened(l), name, shortened(got), err, shortened(want), wantErr)
	}
}

func wantRename(t *testing.T, l []api.Entry, from, to string, want []api.Entry, wantErr api.Errno) {
	t.Helper()
	if got, err := Rename(l, from, to); !slices.Equal(got, want) || err != wantErr {
		t.Errorf("Rename(%s, %.40q, %.40q) is %s and %d, not %s and %d", shortened(l), from, to, shortened(got), err, shortened(want), wantErr)
	}
}

// wantAll checks what each function with a list does with that one, the name
// and the other name.
func wantAll(t *testing.T, l []api.Entry, name, other string, err api.Errno) {
	t.Helper()
	wantFind(t, l, name, 0, err)
	wantAdd(t, l, entry(name), nil, err)
	wantRemove(t, l, name, nil, err)
	wantRename(t, l, name, other, nil, err)
}

// wantPlain checks all functions but Rename against the chapter.
func wantPlain(t *testing.T, l []api.Entry, e api.Entry) {
	t.Helper()
	d, ok := plainOf(l)
	wantRight(t, l, ok)
	if !ok {
		wantAll(t, l, e.Name, "b", api.ErrForm)
		return
	}
	id, held := d[e.Name]
	if held {
		wantFind(t, l, e.Name, id, api.OK)
		wantAdd(t, l, e, nil, api.ErrHeld)
		delete(d, e.Name)
		wantRemove(t, l, e.Name, d.list(), api.OK)
		return
	}
	wantFind(t, l, e.Name, 0, api.ErrNone)
	wantRemove(t, l, e.Name, nil, api.ErrNone)
	if !plainGood(e.Name) {
		wantAdd(t, l, e, nil, api.ErrRange)
		return
	}
	d[e.Name] = e.Id
	wantAdd(t, l, e, d.list(), api.OK)
}

// wantPlainRename checks a call against the chapter.
func wantPlainRename(t *testing.T, l []api.Entry, from, to string) {
	t.Helper()
	d, ok := plainOf(l)
	if !ok {
		wantRename(t, l, from, to, nil, api.ErrForm)
		return
	}
	id, found := d[from]
	if !found {
		wantRename(t, l, from, to, nil, api.ErrNone)
		return
	}
	if from == to {
		wantRename(t, l, from, to, l, api.OK)
		return
	}
	if !plainGood(to) {
		wantRename(t, l, from, to, nil, api.ErrRange)
		return
	}
	if _, held := d[to]; held {
		wantRename(t, l, from, to, nil, api.ErrHeld)
		return
	}
	delete(d, from)
	d[to] = id
	wantRename(t, l, from, to, d.list(), api.OK)
}

// wrongNames are those that no entry may have.
func wrongNames() []string {
	return []string{
		"", ".", "..", "/", "\x00", "a/b", "a\x00b", "/a", "a/", "\x00a", "a\x00", "./", "../", "//",
		strings.Repeat("a", longest+1), strings.Repeat("/", longest+1), strings.Repeat("é", 7), strings.Repeat("a", 1<<16),
	}
}

// someNames are names in increasing order, not all of them UTF-8.
func someNames() []string {
	return []string{
		"\x01", "\t", " ", "  ", "-", "...", "..a", ".a", "0", "10", "9", "A", "B", "Z", "\\",
		"a", "a\x01", "a ", "a.", "a0", "aa", "aaaaaaaaaaaa", "ab", "b", "ba", "\x7f", "\x80", "\xc3", "é", "日本語の", "\xff", "\xff\xff",
	}
}

func TestGoodKnownNames(t *testing.T) {
	for _, name := range someNames() {
		wantGood(t, name, true)
	}
	for _, name := range []string{"....", ". ", " .", ".. ", ".\x01", "twelve bytes", "éééééé", "\xff\xff\xff\xff\xff\xff\xff\xff\xff\xff\xff\xff"} {
		wantGood(t, name, true)
	}
	for _, name := range wrongNames() {
		wantGood(t, name, false)
	}
}

func TestGoodLengths(t *testing.T) {
	for n := range 300 {
		for _, c := range []string{"a", ".", " ", "\xff"} {
			want := n >= 1 && n <= longest && (c != "." || n > 2)
			wantGood(t, strings.Repeat(c, n), want)
		}
		// It is bytes that count: two of them for each of these.
		wantGood(t, strings.Repeat("ß", n), n >= 1 && 2*n <= longest)
	}
	for _, n := range []int{256, 256 + longest, 1 << 16, 1<<16 + 1, 1 << 20} {
		wantGood(t, strings.Repeat("a", n), false)
	}
}

// Each byte at each place of names of all lengths.
func TestGoodEveryByte(t *testing.T) {
	for b := range 256 {
		for n := 1; n <= longest+1; n++ {
			for at := range n {
				name := []byte(strings.Repeat("x", n))
				name[at] = byte(b)
				wantGood(t, string(name), plainGood(string(name)))
			}
		}
	}
}

// All names of up to five bytes of which some are special.
func TestGoodShortNames(t *testing.T) {
	names := []string{""}
	for range 6 {
		var longer []string
		for _, name := range names {
			wantGood(t, name, plainGood(name))
			for _, c := range []string{".", "/", "\x00", "a", "\xaf"} {
				longer = append(longer, name+c)
			}
		}
		names = longer
	}
}

func TestRightKnownLists(t *testing.T) {
	for _, l := range [][]api.Entry{
		nil,
		{},
		list("a"),
		list("a", "b"),
		list("a", "aa", "ab", "b"),
		list("B", "a"),
		list("10", "9"),
		list("a", "é"),
		list("z", "\x80", "\xff", "\xff\x01"),
		list("...", "a"),
		{{Name: "a", Id: 3}, {Name: "b", Id: 3}},
		{{Name: "a", Id: math.MaxInt}, {Name: "b", Id: math.MinInt}, {Name: "c", Id: -1}},
	} {
		wantRight(t, l, true)
	}
	for _, l := range [][]api.Entry{
		{{}},
		list("b", "a"),
		list("a", "a"),
		{{Name: "a", Id: 1}, {Name: "a", Id: 2}},
		list("a", "b", "b"),
		list("a", "c", "b"),
		list("aa", "a"),
		list("a", "B"),
		list("9", "10"),
		list("\xff", "z"),
		list("é", "z"),
		list(".", "a"),
		list("a", ".."),
	} {
		wantRight(t, l, false)
	}
}

// The order is that of the bytes, whatever characters they stand for.
func TestRightOrderOfBytes(t *testing.T) {
	l := list(someNames()...)
	wantRight(t, l, true)
	for k := range l {
		wantFind(t, l, l[k].Name, l[k].Id, api.OK)
		for other := range k {
			wantRight(t, []api.Entry{l[other], l[k]}, true)
			wantRight(t, []api.Entry{l[k], l[other]}, false)
			swapped := slices.Clone(l)
			swapped[k], swapped[other] = l[other], l[k]
			wantRight(t, swapped, false)
		}
		wantRight(t, slices.Insert(slices.Clone(l), k, l[k]), false)
	}
}

// One wrong name anywhere, even where the list increases all the same.
func TestWrongNamesInLists(t *testing.T) {
	right := list("-", "b", "d")
	for _, name := range wrongNames() {
		for at := range len(right) + 1 {
			l := slices.Insert(slices.Clone(right), at, entry(name))
			wantRight(t, l, false)
			wantAll(t, l, "b", "x", api.ErrForm)
			wantAll(t, l, name, "x", api.ErrForm)
			wantAll(t, l, "c", "c", api.ErrForm)
		}
		wantRight(t, list(name), false)
		wantAll(t, list(name), name, name, api.ErrForm)
	}
	sorted := []string{"\x00", "a", "b/", "c", strings.Repeat("d", longest+1), "e"}
	for k := 0; k < len(sorted); k += 2 {
		wantRight(t, list(sorted[k], sorted[k+1]), false)
		wantAll(t, list(sorted[k], sorted[k+1]), sorted[k+1], "x", api.ErrForm)
	}
}

// Whatever is asked about a list that is not valid, this is the first error.
func TestWrongFormComesFirst(t *testing.T) {
	for _, l := range [][]api.Entry{
		list("b", "a"), list("a", "a"), list("a", "c", "b"), list("a", "b", "b"), list(""), list("a", "b", "c/"), {{}},
	} {
		for _, name := range append(wrongNames(), "a", "b", "c", "x") {
			for _, to := range []string{"a", "b", "x", "", "/", name} {
				wantAll(t, l, name, to, api.ErrForm)
			}
		}
	}
}

func TestFind(t *testing.T) {
	l := []api.Entry{{Name: "a", Id: 5}, {Name: "b", Id: 0}, {Name: "bb", Id: -1}, {Name: "d", Id: math.MaxInt}, {Name: "e", Id: math.MinInt}, {Name: "f", Id: 5}}
	for _, e := range l {
		wantFind(t, l, e.Name, e.Id, api.OK)
	}
	for _, name := range append(wrongNames(), "A", "B", "aa", "ab", "c", "bbb", "g", "\x01", "\xff", " a", "a ") {
		wantFind(t, l, name, 0, api.ErrNone)
		wantFind(t, nil, name, 0, api.ErrNone)
	}
}

func TestAdd(t *testing.T) {
	wantAdd(t, nil, entry("a"), list("a"), api.OK)
	wantAdd(t, []api.Entry{}, entry("a"), list("a"), api.OK)
	l := list("b", "d", "f")
	wantAdd(t, l, entry("a"), list("a", "b", "d", "f"), api.OK)
	wantAdd(t, l, entry("c"), list("b", "c", "d", "f"), api.OK)
	wantAdd(t, l, entry("e"), list("b", "d", "e", "f"), api.OK)
	wantAdd(t, l, entry("g"), list("b", "d", "f", "g"), api.OK)
	wantAdd(t, l, entry("bb"), list("b", "bb", "d", "f"), api.OK)
	wantAdd(t, l, entry("D"), list("D", "b", "d", "f"), api.OK)
	wantAdd(t, l, entry("é"), list("b", "d", "f", "é"), api.OK)
	wantAdd(t, l, entry("..."), list("...", "b", "d", "f"), api.OK)
	wantAdd(t, l, entry("twelve bytes"), list("b", "d", "f", "twelve bytes"), api.OK)
	// The Id may be any number, even that of another entry.
	for _, id := range []int{0, -1, math.MinInt, math.MaxInt, l[0].Id} {
		wantAdd(t, l, api.Entry{Name: "c", Id: id}, slices.Insert(slices.Clone(l), 1, api.Entry{Name: "c", Id: id}), api.OK)
		for _, held := range l {
			wantAdd(t, l, api.Entry{Name: held.Name, Id: id}, nil, api.ErrHeld)
		}
	}
	for _, name := range wrongNames() {
		wantAdd(t, l, entry(name), nil, api.ErrRange)
		wantAdd(t, nil, entry(name), nil, api.ErrRange)
	}
}

func TestRemove(t *testing.T) {
	l := list("b", "d", "f")
	wantRemove(t, l, "b", list("d", "f"), api.OK)
	wantRemove(t, l, "d", list("b", "f"), api.OK)
	wantRemove(t, l, "f", list("b", "d"), api.OK)
	wantRemove(t, list("a"), "a", nil, api.OK)
	for _, name := range append(wrongNames(), "a", "c", "e", "g", "bb", "B") {
		wantRemove(t, l, name, nil, api.ErrNone)
		wantRemove(t, nil, name, nil, api.ErrNone)
	}
}

func TestRename(t *testing.T) {
	l := []api.Entry{{Name: "b", Id: 2}, {Name: "d", Id: 4}, {Name: "f", Id: 6}}
	for k, e := range l {
		rest := slices.Delete(slices.Clone(l), k, k+1)
		for _, to := range []string{"a", "bb", "c", "dd", "e", "ff", "g", "...", "twelve bytes", "\xff"} {
			want := append(slices.Clone(rest), api.Entry{Name: to, Id: e.Id})
			slices.SortFunc(want, func(a, b api.Entry) int { return strings.Compare(a.Name, b.Name) })
			wantRename(t, l, e.Name, to, want, api.OK)
		}
		for _, other := range rest {
			wantRename(t, l, e.Name, other.Name, nil, api.ErrHeld)
		}
		for _, to := range wrongNames() {
			wantRename(t, l, e.Name, to, nil, api.ErrRange)
		}
		wantRename(t, l, e.Name, e.Name, l, api.OK)
	}
	wantRename(t, list("a"), "a", "a", list("a"), api.OK)
	wantRename(t, []api.Entry{{Name: "a", Id: 9}}, "a", "z", []api.Entry{{Name: "z", Id: 9}}, api.OK)
}

// An entry that is not there comes before all that is wrong with its new name,
// even where that is its old name.
func TestRenameNone(t *testing.T) {
	l := list("b", "d", "f")
	for _, from := range append(wrongNames(), "a", "c", "g", "bb", "B") {
		for _, to := range append(wrongNames(), "b", "d", "x", from) {
			wantRename(t, l, from, to, nil, api.ErrNone)
			wantRename(t, nil, from, to, nil, api.ErrNone)
		}
	}
}

// All lists of up to three names, and all that may be done with them.
func TestSmallLists(t *testing.T) {
	names := []string{"", ".", "..", "...", "a", "a\x00", "aa", "b", "b/", "\xff"}
	lists := [][]api.Entry{nil}
	for round := range 4 {
		var longer [][]api.Entry
		for _, l := range lists {
			for _, name := range names {
				wantPlain(t, l, api.Entry{Name: name, Id: 99})
				for _, to := range names {
					wantPlainRename(t, l, name, to)
				}
				if round < 3 {
					longer = append(longer, append(slices.Clip(l), api.Entry{Name: name, Id: 10 * len(l)}))
				}
			}
		}
		lists = longer
	}
}

// All valid lists of some names, each of them with each of the names.
func TestAllDirectories(t *testing.T) {
	names := []string{"...", "A", "a", "a ", "aa", "b", "\x80"}
	for bits := range 1 << len(names) {
		d := plainDir{}
		for k, name := range names {
			if bits>>k&1 == 1 {
				d[name] = k * k
			}
		}
		l := d.list()
		for _, name := range append(names, "", "..", "0", "c", "\xff") {
			wantPlain(t, l, api.Entry{Name: name, Id: -5})
			for _, to := range append(names, ".", "a/", "\x01", "bb") {
				wantPlainRename(t, l, name, to)
			}
		}
	}
}

// orders calls visit with l in each order.
func orders(l []api.Entry, done int, visit func([]api.Entry)) {
	if done == len(l) {
		visit(l)
		return
	}
	for k := done; k < len(l); k++ {
		l[done], l[k] = l[k], l[done]
		orders(l, done+1, visit)
		l[done], l[k] = l[k], l[done]
	}
}

// A directory does not depend on the order in which its entries came, and is
// empty when they have gone in that order again.
func TestOrderOfInsertion(t *testing.T) {
	want := list("-", "B", "a", "aa", "b", "\xff")
	orders(slices.Clone(want), 0, func(order []api.Entry) {
		var l []api.Entry
		for _, e := range order {
			l, _ = Add(l, e)
			wantRight(t, l, true)
		}
		if !slices.Equal(l, want) {
			t.Errorf("the entries %s, added in that order, are %s", shortened(order), shortened(l))
		}
		for _, e := range order {
			l, _ = Remove(l, e.Name)
			wantFind(t, l, e.Name, 0, api.ErrNone)
		}
		if len(l) > 0 {
			t.Errorf("the entries are %s when all have been removed", shortened(l))
		}
	})
}

// A list has as many entries as there are names.
func TestLargeDirectories(t *testing.T) {
	var l []api.Entry
	for k := range 20000 {
		l = append(l, api.Entry{Name: fmt.Sprintf("n%05d", k), Id: k})
	}
	wantRight(t, l, true)
	for _, k := range []int{0, 1, 2, 4095, 4096, 9999, 10000, 19998, 19999} {
		name := l[k].Name
		wantFind(t, l, name, k, api.OK)
		wantAdd(t, l, entry(name), nil, api.ErrHeld)
		wantAdd(t, l, entry(name+"x"), slices.Insert(slices.Clone(l), k+1, entry(name+"x")), api.OK)
		rest := slices.Delete(slices.Clone(l), k, k+1)
		wantRemove(t, l, name, rest, api.OK)
		wantRename(t, l, name, name, l, api.OK)
		wantRename(t, l, name, "a", slices.Insert(slices.Clone(rest), 0, api.Entry{Name: "a", Id: k}), api.OK)
		wantRename(t, l, name, "z", append(rest, api.Entry{Name: "z", Id: k}), api.OK)
		wrong := slices.Clone(l)
		wrong[k].Name = "zz/"
		wantRight(t, wrong, false)
		wantAll(t, wrong, "n00003", "x", api.ErrForm)
	}
	wantRight(t, append(l, l[len(l)-1]), false)
}

func TestArgumentsStayAsTheyAre(t *testing.T) {
	entries := list("b", "d", "f", "spare", "more")
	before := slices.Clone(entries)
	for _, name := range []string{"a", "b", "c", "d", "e", "f", "g", "/", ""} {
		Right(entries[:3])
		Find(entries[:3], name)
		Add(entries[:3], entry(name))
		Remove(entries[:3], name)
		for _, to := range []string{"a", "b", "c", "d", "e", "f", "g", "/"} {
			Rename(entries[:3], name, to)
		}
		if !slices.Equal(entries, before) {
			t.Fatalf("a call with %q changed the entries, which are %s now", name, shortened(entries))
		}
	}
}

func TestResultsAreNewMemory(t *testing.T) {
	l := list("b", "d", "f", "spare", "more")[:3]
	before := slices.Clone(l[:5])
	check := func(what string, got []api.Entry, err api.Errno) {
		t.Helper()
		if err != api.OK {
			t.Fatalf("%s fails with %d", what, err)
		}
		clear(got[:cap(got)])
		if !slices.Equal(l[:5], before) {
			t.Fatalf("%s returns entries of its argument", what)
		}
	}
	for _, name := range []string{"a", "c", "g"} {
		got, err := Add(l, entry(name))
		check("Add of "+name, got, err)
	}
	for _, name := range []string{"b", "d", "f"} {
		got, err := Remove(l, name)
		check("Remove of "+name, got, err)
		for _, to := range []string{"a", "c", "g", name} {
			got, err = Rename(l, name, to)
			check("Rename of "+name+" to "+to, got, err)
		}
	}
}
