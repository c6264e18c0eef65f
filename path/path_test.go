package path

import (
	"fmt"
	"slices"
	"strings"
	"testing"
)

// plainParts goes from the last component to the first one, byte by byte: a
// ".." waits for the next name before it, and cancels that.
func plainParts(s string) []string {
	var names []string
	waiting := 0
	end := len(s)
	for k := len(s) - 1; k >= -1; k-- {
		if k >= 0 && s[k] != '/' {
			continue
		}
		component := s[k+1 : end]
		end = k
		switch {
		case component == "" || component == ".":
		case component == "..":
			waiting++
		case waiting > 0:
			waiting--
		default:
			names = append(names, component)
		}
	}
	slices.Reverse(names)
	return names
}

// plainPath has a slash before each of the names, and one if there are none.
func plainPath(names []string) string {
	if len(names) == 0 {
		return "/"
	}
	out := ""
	for _, name := range names {
		out += "/" + name
	}
	return out
}

func plainJoin(at, s string) string {
	if s != "" && s[0] == '/' {
		return plainPath(plainParts(s))
	}
	return plainPath(plainParts(at + "/" + s))
}

func plainUp(s string) (string, string) {
	names := plainParts(s)
	if len(names) == 0 {
		return "/", ""
	}
	return plainPath(names[:len(names)-1]), names[len(names)-1]
}

// plainWithin compares whole paths: each ends with a slash here, so that no
// name counts as the beginning of a longer one.
func plainWithin(s, top string) bool {
	closed := func(s string) string { return strings.Join(append(plainParts(s), ""), "/") }
	return strings.HasPrefix(closed(s), closed(top))
}

// plainBoth shortens a until b is within it.
func plainBoth(a, b string) string {
	names := plainParts(a)
	for !plainWithin(b, plainPath(names)) {
		names = names[:len(names)-1]
	}
	return plainPath(names)
}

func wantParts(t *testing.T, s string, want []string) {
	t.Helper()
	if got := Parts(s); !slices.Equal(got, want) {
		t.Errorf("Parts(%.60q) of %d bytes is %.200q, not %.200q", s, len(s), got, want)
	}
}

func wantClean(t *testing.T, s, want string) {
	t.Helper()
	if got := Clean(s); got != want {
		t.Errorf("Clean(%.60q) of %d bytes is %.60q, not %.60q", s, len(s), got, want)
	}
}

func wantJoin(t *testing.T, at, s, want string) {
	t.Helper()
	if got := Join(at, s); got != want {
		t.Errorf("Join(%.60q, %.60q) is %.60q, not %.60q", at, s, got, want)
	}
}

func wantUp(t *testing.T, s, want, wantName string) {
	t.Helper()
	if got, name := Up(s); got != want || name != wantName {
		t.Errorf("Up(%.60q) is %.60q and %.60q, not %.60q and %.60q", s, got, name, want, wantName)
	}
}

func wantWithin(t *testing.T, s, top string, want bool) {
	t.Helper()
	if got := Within(s, top); got != want {
		t.Errorf("Within(%.60q, %.60q) is %v", s, top, got)
	}
}

func wantBoth(t *testing.T, a, b, want string) {
	t.Helper()
	if got := Both(a, b); got != want {
		t.Errorf("Both(%.60q, %.60q) is %.60q, not %.60q", a, b, got, want)
	}
}

// wantPlain checks all functions with one path against the chapter.
func wantPlain(t *testing.T, s string) {
	t.Helper()
	names := plainParts(s)
	wantParts(t, s, names)
	wantClean(t, s, plainPath(names))
	up, name := plainUp(s)
	wantUp(t, s, up, name)
}

// wantPlainTwo checks all functions with two paths against the chapter.
func wantPlainTwo(t *testing.T, a, b string) {
	t.Helper()
	wantJoin(t, a, b, plainJoin(a, b))
	wantWithin(t, a, b, plainWithin(a, b))
	wantBoth(t, a, b, plainBoth(a, b))
}

// shortPaths are all strings of up to most of some bytes, two of them special.
func shortPaths(most int, bytes ...string) []string {
	all := []string{""}
	from := 0
	for range most {
		to := len(all)
		for _, s := range all[from:to] {
			for _, c := range bytes {
				all = append(all, s+c)
			}
		}
		from = to
	}
	return all
}

// somePaths have components of all kinds, at all places.
func somePaths() []string {
	return []string{
		"", "/", "//", ".", "..", "/.", "/..", "./..", "../..", "../../a", "/../a/..", "...", "/.../..", "....", "a/...",
		"a", "/a", "a/", "//a//", "./a/.", "a/..", "a/../", "../a", "a/../..", "a/../../b", "/a/b", "a/b/..", "a/b/../..", "a/./b",
		"/a/b/c", "/ab", "/abc", "/a/bc", "/a/b c", "a/b/c/../../d", "b/a", "A/b", "/a/b/a/b", "/b", "a.", "a..", ".a", "..a", "a./b", ".. /b", " ../b", ". /b",
		"a/ /b", "a\\b", "a\x00b", "\x00", "/\xff/\xfe", "é/日本", "a/\n/b", "~/a", "*", "%2e%2e/a", "a name of more bytes than an entry of a directory may have/b",
	}
}

func TestPartsKnownPaths(t *testing.T) {
	for _, s := range []string{"", "/", "//", "///", ".", "./", "/.", "/./.", "..", "/..", "../..", "a/..", "/a/../", "a/b/../..", "a/../../..", ".././../"} {
		wantParts(t, s, nil)
	}
	wantParts(t, "a", []string{"a"})
	wantParts(t, "/a", []string{"a"})
	wantParts(t, "a/", []string{"a"})
	wantParts(t, "//a//b///", []string{"a", "b"})
	wantParts(t, "a/./b/../..//c", []string{"c"})
	wantParts(t, "/../a", []string{"a"})
	wantParts(t, "a/../../b/c", []string{"b", "c"})
	wantParts(t, "a/b/../c", []string{"a", "c"})
	wantParts(t, "a/a/a", []string{"a", "a", "a"})
	wantParts(t, ".../....", []string{"...", "...."})
	wantParts(t, ".a/a./..a/a..", []string{".a", "a.", "..a", "a.."})
	wantParts(t, " / . /.. ", []string{" ", " . ", ".. "})
}

// Whatever bytes a component has, it is a name: which names an entry may have
// is for package dir to say.
func TestAnyOtherComponentIsAName(t *testing.T) {
	for _, name := range []string{
		"\x00", "a\x00b", ".\x00", "..\x00", "\\", "..\\", "\xff", "\xc3", "é", "日本語", "\n", " ", "%2f", "%2e", "~", "*", "|", "C:",
		strings.Repeat("a", 13), strings.Repeat(".", 3), strings.Repeat(".", 1000), strings.Repeat("x", 1<<16),
	} {
		wantParts(t, name, []string{name})
		wantParts(t, "/a/"+name+"/b", []string{"a", name, "b"})
		wantParts(t, name+"/..", nil)
		wantClean(t, name+"//"+name, "/"+name+"/"+name)
		wantUp(t, "a/"+name, "/a", name)
		wantWithin(t, name+"/a", name, true)
	}
}

// Only one byte separates names.
func TestEveryByte(t *testing.T) {
	for b := range 256 {
		c := string([]byte{byte(b)})
		for _, s := range []string{c, c + c, "a" + c, c + "a", "a" + c + "b", "." + c, "a/" + c, "a/" + c + c, "a/" + c + "./b", "a/b" + c + ".."} {
			wantPlain(t, s)
		}
		wantClean(t, "x"+c+"y", "/x"+c+"y")
	}
}

func TestCleanKnownPaths(t *testing.T) {
	wantClean(t, "a/./b/../..//c", "/c")
	wantClean(t, "", "/")
	wantClean(t, "/", "/")
	wantClean(t, ".", "/")
	wantClean(t, "..", "/")
	wantClean(t, "a/..", "/")
	wantClean(t, "a", "/a")
	wantClean(t, "/a/b", "/a/b")
	wantClean(t, "//x///y/", "/x/y")
	wantClean(t, "/../a", "/a")
	wantClean(t, "a b/c", "/a b/c")
	wantClean(t, "...", "/...")
}

// A normalized path has the same names, and is its own normalized path.
func TestCleanIsStable(t *testing.T) {
	for _, s := range append(shortPaths(6, "/", ".", "a"), somePaths()...) {
		clean := Clean(s)
		wantClean(t, clean, clean)
		wantParts(t, clean, Parts(s))
	}
}

func TestJoinKnownPaths(t *testing.T) {
	wantJoin(t, "", "", "/")
	wantJoin(t, "", "a", "/a")
	wantJoin(t, "a", "", "/a")
	wantJoin(t, "a", "b", "/a/b")
	wantJoin(t, "/a/", "b/", "/a/b")
	wantJoin(t, "a/b", "..", "/a")
	wantJoin(t, "a/b", "../../../c", "/c")
	wantJoin(t, "a/..", "b", "/b")
	wantJoin(t, "a", ".", "/a")
	wantJoin(t, "a", "./b", "/a/b")
	wantJoin(t, "a", "b/../c", "/a/c")
	// What starts with a slash starts at the root.
	wantJoin(t, "a", "/", "/")
	wantJoin(t, "a", "/b", "/b")
	wantJoin(t, "a", "//b", "/b")
	wantJoin(t, "a/b", "/../c", "/c")
	// These only look as if they did, or go back to the root.
	wantJoin(t, "a", "\\b", "/a/\\b")
	wantJoin(t, "a", " /b", "/a/ /b")
	wantJoin(t, "a", ".//b", "/a/b")
	// The path that it starts from and its own first name stay apart, even
	// where they would be another component together.
	wantJoin(t, ".", ".", "/")
	wantJoin(t, "a/.", ".", "/a")
	wantJoin(t, "a/.", "./b", "/a/b")
	wantJoin(t, "a", ".b", "/a/.b")
}

// It does not matter how the path is written that another one starts from.
func TestJoinStartsFromAPlace(t *testing.T) {
	for _, at := range somePaths() {
		wantJoin(t, at, "", Clean(at))
		wantJoin(t, at, "/", "/")
		for _, s := range somePaths() {
			wantJoin(t, Clean(at), s, Join(at, s))
			wantJoin(t, at, Clean(s), Clean(s))
		}
	}
}

func TestUpKnownPaths(t *testing.T) {
	for _, s := range []string{"", "/", "//", ".", "..", "a/..", "/../.."} {
		wantUp(t, s, "/", "")
	}
	wantUp(t, "a", "/", "a")
	wantUp(t, "/a/", "/", "a")
	wantUp(t, "a/b", "/a", "b")
	wantUp(t, "/a/b/c", "/a/b", "c")
	wantUp(t, "//a//b//c//", "/a/b", "c")
	wantUp(t, "a/b/..", "/", "a")
	wantUp(t, "a/b/.", "/a", "b")
	wantUp(t, "a/./b/../..//c", "/", "c")
	wantUp(t, "a/a", "/a", "a")
	wantUp(t, "a/...", "/a", "...")
}

// Every path has a parent; the name leads from there back to the path.
func TestUpAndBack(t *testing.T) {
	for _, s := range append(shortPaths(6, "/", ".", "a"), somePaths()...) {
		up, name := Up(s)
		wantClean(t, up, up)
		wantJoin(t, up, name, Clean(s))
		wantWithin(t, s, up, true)
		wantWithin(t, up, s, Clean(s) == "/")
		wantJoin(t, s, "..", up)
	}
}

func TestWithinKnownPaths(t *testing.T) {
	for _, s := range somePaths() {
		wantWithin(t, s, s, true)
		wantWithin(t, s, "/", true)
		wantWithin(t, s, "", true)
		wantWithin(t, "/", s, Clean(s) == "/")
		wantWithin(t, s+"/x", s, true)
		wantWithin(t, s, s+"/x", false)
	}
	wantWithin(t, "/a/b", "a", true)
	wantWithin(t, "a/b/c", "/a/b/", true)
	wantWithin(t, "a/./b/../..//c", "c", true)
	wantWithin(t, "a/../b", "a", false)
	wantWithin(t, "b", "a/../b", true)
	wantWithin(t, "a/b", "a/b/c/..", true)
	// Names count as a whole, from the first one on.
	wantWithin(t, "/ab", "/a", false)
	wantWithin(t, "/a", "/ab", false)
	wantWithin(t, "/a/bc", "/a/b", false)
	wantWithin(t, "/a/b", "/b", false)
	wantWithin(t, "/b/a", "/a", false)
	wantWithin(t, "/A", "/a", false)
	wantWithin(t, "/a/b/c", "/a/x/c", false)
}

func TestBothKnownPaths(t *testing.T) {
	for _, s := range somePaths() {
		wantBoth(t, s, s, Clean(s))
		wantBoth(t, s, "/", "/")
		wantBoth(t, "", s, "/")
		wantBoth(t, s, s+"/x", Clean(s))
		wantBoth(t, s+"/x", s, Clean(s))
		wantBoth(t, s+"/x", s+"/y", Clean(s))
		wantBoth(t, s+"/x/z", s+"/y/z", Clean(s))
	}
	wantBoth(t, "/a/b/c", "a/b/d", "/a/b")
	wantBoth(t, "/a/b", "/ab", "/")
	wantBoth(t, "/a/bc", "/a/bd", "/a")
	wantBoth(t, "a/b", "b/a", "/")
	wantBoth(t, "a/b/../c/d", "a/c/e/..", "/a/c")
	wantBoth(t, "/x/a/b", "/y/a/b", "/")
	// Only names before the first difference count.
	wantBoth(t, "/a/x/c/d", "/a/y/c/d", "/a")
}

// Both paths are within the result, and no longer path has that property.
func TestBothIsTheLongest(t *testing.T) {
	for _, a := range somePaths() {
		for _, b := range somePaths() {
			both := Both(a, b)
			wantBoth(t, b, a, both)
			wantWithin(t, a, both, true)
			wantWithin(t, b, both, true)
			wantWithin(t, a, b, both == Clean(b))
			if n := len(Parts(both)); n < len(Parts(a)) {
				wantWithin(t, b, Clean(strings.Join(Parts(a)[:n+1], "/")), false)
			}
		}
	}
}

func TestShortPaths(t *testing.T) {
	for _, s := range shortPaths(7, "/", ".", "a", "b") {
		wantPlain(t, s)
	}
	paths := shortPaths(4, "/", ".", "a", "b")
	for _, a := range paths {
		for _, b := range paths {
			wantPlainTwo(t, a, b)
		}
	}
}

// All paths of up to seven components out of five.
func TestShortResolutions(t *testing.T) {
	for _, s := range shortPaths(7, "/", "/.", "/..", "/a", "/ab") {
		wantPlain(t, s)
	}
	paths := shortPaths(3, "/", "/.", "/..", "/a", "/ab")
	for _, a := range paths {
		wantPlain(t, a[min(len(a), 1):])
		for _, b := range paths {
			wantPlainTwo(t, a, b)
			wantPlainTwo(t, a, b[min(len(b), 1):])
		}
	}
}

func TestSomePaths(t *testing.T) {
	for _, a := range somePaths() {
		wantPlain(t, a)
		for _, b := range somePaths() {
			wantPlain(t, a+b)
			wantPlainTwo(t, a, b)
		}
	}
}

// Neither the number of names nor that of bytes is limited.
func TestLongPaths(t *testing.T) {
	const many = 100000
	var names []string
	for k := range many {
		names = append(names, fmt.Sprint("n", k))
	}
	s := strings.Join(names, "/")
	wantParts(t, s, names)
	wantParts(t, strings.ReplaceAll(s, "/", "//.//x/../"), names)
	wantClean(t, s+"/", "/"+s)
	up := "/" + strings.Join(names[:many-1], "/")
	wantUp(t, s, up, names[many-1])
	wantJoin(t, s, "..", up)
	wantJoin(t, s, "x", "/"+s+"/x")
	wantBoth(t, s, up+"/x", up)
	wantWithin(t, s, up, true)
	wantWithin(t, s, up+"/x", false)
	wantWithin(t, up, s, false)
	back := strings.Repeat("../", many)
	wantJoin(t, s, back, "/")
	wantJoin(t, s, back+back+"a", "/a")
	wantJoin(t, s, back[3:], "/"+names[0])
	for _, c := range []string{"/", "./", "../", "/.", "a/../"} {
		wantClean(t, strings.Repeat(c, many)+"/b", "/b")
		wantParts(t, strings.Repeat(c, many), nil)
	}
	long := strings.Repeat(".", 1<<20)
	wantUp(t, "/a/"+long+"/", "/a", long)
}

// A call gives the same result again, whatever was done with the former one.
func TestResultsAreNewMemory(t *testing.T) {
	for _, s := range []string{"a/b/c", "/a/b/../c", "a/b/c/../..", "//a//"} {
		want := plainParts(s)
		got := Parts(s)
		clear(got[:cap(got)])
		_ = append(got[:0], "x", "y")
		wantParts(t, s, want)
		wantPlain(t, s)
		wantPlainTwo(t, s, "a/b")
	}
}
