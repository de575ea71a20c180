package path_test

import (
	"slices"
	"strings"
	"testing"

	"steamer/api"
	"steamer/path"
)

// name20 is the longest name; deepest and longest are paths that no name fits behind.
var (
	name20  = strings.Repeat("n", 20)
	deepest = "1/2/3/4/5/6/7/8"
	longest = strings.Repeat(strings.Repeat("n", 19)+"/", 4) + name20
	tooLong = longest[:80] + strings.Repeat("n", 18) + "/nn" // of valid names
)

// valid paths, in ascending order.
var valid = []string{
	"", "\x01", "\x01/z", " ", "-", "-/a", "...", ".../a", "..a", ".a", "0",
	deepest[:1], deepest[:3], deepest, "A", "a", "a/-", "a/b", "a/b/c", "a/c", "a-b", "a-b/c", "ab",
	"b", longest[:99], longest, name20, "\u00e9", "\u00e9/a", "\xff", "\xff\xff",
}

// invalid paths, each broken at one point alone.
func invalid() []string {
	return []string{
		"/", "//", "/a", "a/", "a//b", "a/b/", ".", "..", "./a", "a/.", "a/./b", "../a", "a/..", "a/../b",
		"\x00", "a\x00", "a/\x00", "a/b\x00c",
		name20 + "n", "a/" + name20 + "n", name20 + "n/a",
		deepest + "/9", tooLong,
		strings.Repeat("a/", 1<<20) + "a", strings.Repeat("a", 1<<20), strings.Repeat("/", 1<<20),
	}
}

func TestExamplesAreAtTheLimits(t *testing.T) {
	if len(longest) != api.MaxPath || len(name20) != api.MaxName || strings.Count(deepest, "/")+1 != api.MaxDepth {
		t.Fatal(len(longest), len(name20), deepest)
	}
	if len(tooLong) != api.MaxPath+1 {
		t.Fatal(len(tooLong))
	}
}

// Promise 1.1.

func TestName(t *testing.T) {
	for _, s := range []string{"a", "...", "..a", ".a", "a.", "a..", "-", " ", "\n", "\x01", "\xff", "\\", name20, name20[:19], strings.Repeat("\u00e9", 10)} {
		if !path.Name(s) {
			t.Errorf("%q is a name", s)
		}
	}
	for _, s := range []string{"", ".", "..", "/", "/a", "a/", "a/b", "\x00", "\x00a", "a\x00", name20 + "n", name20[:19] + "/", name20[:19] + "\x00", strings.Repeat("\u00e9", 11), strings.Repeat("n", 1<<20)} {
		if path.Name(s) {
			t.Errorf("%.30q is no name", s)
		}
	}
	for b := range 256 {
		s := string([]byte{byte(b)})
		want := b != 0 && b != '/' && b != '.'
		if path.Name(s) != want || path.Name(s+"a") != (want || b == '.') {
			t.Errorf("the byte %d", b)
		}
	}
}

func TestMay(t *testing.T) {
	for _, s := range valid {
		if !path.May(s) {
			t.Errorf("%q is a path", s)
		}
	}
	for _, s := range invalid() {
		if path.May(s) {
			t.Errorf("%.120q is no path", s)
		}
	}
}

func TestPartsOfPaths(t *testing.T) {
	for _, x := range []struct {
		s      string
		parts  []string
		parent string
		has    bool
		last   string
	}{
		{"", nil, "", false, ""},
		{"a", []string{"a"}, "", true, "a"},
		{"a/b", []string{"a", "b"}, "a", true, "b"},
		{"ab/cd/ab", []string{"ab", "cd", "ab"}, "ab/cd", true, "ab"},
		{".../..a", []string{"...", "..a"}, "...", true, "..a"},
		{deepest, []string{"1", "2", "3", "4", "5", "6", "7", "8"}, "1/2/3/4/5/6/7", true, "8"},
		{longest, []string{name20[:19], name20[:19], name20[:19], name20[:19], name20}, longest[:79], true, name20},
	} {
		if got := path.Parts(x.s); !slices.Equal(got, x.parts) {
			t.Errorf("Parts(%q) = %q", x.s, got)
		}
		if got, has := path.Parent(x.s); got != x.parent || has != x.has {
			t.Errorf("Parent(%q) = %q, %v", x.s, got, has)
		}
		if got := path.Last(x.s); got != x.last {
			t.Errorf("Last(%q) = %q", x.s, got)
		}
		if got := path.Depth(x.s); got != len(x.parts) {
			t.Errorf("Depth(%q) = %d", x.s, got)
		}
	}
}

func TestPartsOfInvalidPaths(t *testing.T) {
	for _, s := range invalid() {
		if l := path.Parts(s); len(l) != 0 {
			t.Errorf("Parts(%.120q) has %d names", s, len(l))
		}
		if up, has := path.Parent(s); up != "" || has {
			t.Errorf("Parent(%.120q) = %.30q, %v", s, up, has)
		}
		if last := path.Last(s); last != "" {
			t.Errorf("Last(%.120q) = %.30q", s, last)
		}
		if n := path.Depth(s); n != -1 {
			t.Errorf("Depth(%.120q) = %d", s, n)
		}
	}
}

func TestPartsAreNew(t *testing.T) {
	first := path.Parts("a/b")
	first[0] = "x"
	if l := path.Parts("a/b"); !slices.Equal(l, []string{"a", "b"}) {
		t.Fatal(l)
	}
}

// wantMay says in the document's words what a valid path is, apart from the code.
func wantMay(s string) bool {
	if s == "" {
		return true
	}
	l := strings.Split(s, "/")
	return len(s) <= 100 && len(l) <= 8 && !slices.ContainsFunc(l, func(n string) bool {
		return n == "" || n == "." || n == ".." || len(n) > 20 || strings.Contains(n, "\x00")
	})
}

// everyText calls f once with every text of at most n of these bytes.
func everyText(n int, f func(string)) {
	var grow func(s string)
	grow = func(s string) {
		f(s)
		for _, c := range []string{"a", ".", "/", "-", "\x00"} {
			if len(s) < n {
				grow(s + c)
			}
		}
	}
	grow("")
}

func TestAllShortTexts(t *testing.T) {
	seen := 0
	everyText(6, func(s string) {
		seen++
		want := wantMay(s)
		if path.May(s) != want {
			t.Fatalf("May(%q) = %v", s, !want)
		}
		var l []string
		if want && s != "" {
			l = strings.Split(s, "/")
		}
		if got := path.Parts(s); !slices.Equal(got, l) {
			t.Fatalf("Parts(%q) = %q", s, got)
		}
		if path.Name(s) != (len(l) == 1) {
			t.Fatalf("Name(%q)", s)
		}
	})
	if seen != 1+5+25+125+625+3125+15625 {
		t.Fatal(seen)
	}
}

// Promise 1.2.

func TestJoin(t *testing.T) {
	for _, x := range []struct {
		a, b, want string
		code       int
	}{
		{"", "a", "a", api.OK},
		{"a", "b", "a/b", api.OK},
		{"a/b", "...", "a/b/...", api.OK},
		{"", name20, name20, api.OK},
		{deepest[:13], "8", deepest, api.OK},
		{longest[:79], name20, longest, api.OK},
		{"a/", "b", "", api.ErrArg},
		{"/", "b", "", api.ErrArg},
		{"..", "b", "", api.ErrArg},
		{"a", "", "", api.ErrArg},
		{"", "", "", api.ErrArg},
		{"a", ".", "", api.ErrArg},
		{"a", "..", "", api.ErrArg},
		{"a", "/", "", api.ErrArg},
		{"a", "b/c", "", api.ErrArg},
		{"a", "/b", "", api.ErrArg},
		{"a", "b\x00", "", api.ErrArg},
		{"a", name20 + "n", "", api.ErrArg},
		{deepest + "/9", "a", "", api.ErrArg},
		{deepest, "9", "", api.ErrRange},
		{longest, "n", "", api.ErrRange},
		{longest[:80] + "n", name20[:19], "", api.ErrRange}, // 101 bytes
		{longest[:80] + "n", name20[:18], longest[:80] + "n/" + name20[:18], api.OK},
		// ErrArg stands first where both apply.
		{deepest, "..", "", api.ErrArg},
		{longest, "", "", api.ErrArg},
		{longest + "n", "n", "", api.ErrArg},
	} {
		if s, code := path.Join(x.a, x.b); s != x.want || code != x.code {
			t.Errorf("Join(%q, %q) = %q, %d", x.a, x.b, s, code)
		}
	}
}

func TestJoinUndoesParent(t *testing.T) {
	for _, s := range valid {
		up, has := path.Parent(s)
		if got, code := path.Join(up, path.Last(s)); has && (got != s || code != api.OK) {
			t.Errorf("%q: %q, %d", s, got, code)
		}
	}
}

func TestUnder(t *testing.T) {
	for _, x := range []struct {
		s, top string
		want   bool
	}{
		{"", "", true}, {"a", "", true}, {"a/b/c", "", true},
		{"a", "a", true}, {"a/b", "a", true}, {"a/b/c", "a", true}, {"a/b/c", "a/b", true},
		{"", "a", false}, {"a", "a/b", false}, {"a", "b", false}, {"a/b", "b", false},
		{"ab", "a", false}, {"ab/c", "a", false}, {"a-b", "a", false}, {"a/bc", "a/b", false}, {"a", "ab", false},
		{deepest, deepest[:13], true}, {longest, longest[:79], true}, {longest, longest, true},
	} {
		if path.Under(x.s, x.top) != x.want {
			t.Errorf("Under(%q, %q) = %v", x.s, x.top, !x.want)
		}
	}
	for _, s := range invalid() {
		if path.Under(s, "") || path.Under("", s) || path.Under("a", s) || path.Under(s, s) || path.Under(s, "a") {
			t.Errorf("%.120q is under nothing, and nothing is under it", s)
		}
	}
}

func TestUnderIsAPrefixOfTheNames(t *testing.T) {
	for _, s := range valid {
		for _, top := range valid {
			x, y := path.Parts(s), path.Parts(top)
			want := len(x) >= len(y) && slices.Equal(x[:min(len(x), len(y))], y)
			if path.Under(s, top) != want {
				t.Errorf("Under(%q, %q) = %v", s, top, !want)
			}
		}
	}
}

func TestLess(t *testing.T) {
	for i, a := range valid {
		for k, b := range valid {
			if path.Less(a, b) != (i < k) {
				t.Errorf("Less(%q, %q) = %v", a, b, !(i < k))
			}
			if path.Less(a, b) != (slices.Compare(path.Parts(a), path.Parts(b)) < 0) {
				t.Errorf("Less(%q, %q) and the lists of names", a, b)
			}
		}
	}
	if !path.Less("a/b", "a-b") || path.Less("a-b", "a/b") {
		t.Error("the document's example")
	}
}

func TestLessOfInvalidPaths(t *testing.T) {
	for _, bad := range invalid() {
		for _, s := range valid {
			if path.Less(bad, s) != (s != "") || path.Less(s, bad) {
				t.Errorf("%.120q and %q", bad, s)
			}
		}
		if path.Less(bad, bad) || path.Less(bad, "a//b") || path.Less("a//b", bad) {
			t.Errorf("%.120q is not compared like the root", bad)
		}
	}
}

// Promise 1.3.

// climb goes from s up to the root, and reports how many steps it took.
func climb(t *testing.T, s string) int {
	for n := 0; ; n++ {
		up, has := path.Parent(s)
		if !has {
			if s != "" {
				t.Fatalf("the way up ends at %q", s)
			}
			return n
		}
		if !path.May(up) || !path.Under(s, up) || path.Under(up, s) || len(up) >= len(s) {
			t.Fatalf("from %q to %q", s, up)
		}
		s = up
	}
}

func TestNoPathLeavesTheRoot(t *testing.T) {
	l := slices.Clone(valid)
	everyText(6, func(s string) {
		if path.May(s) {
			l = append(l, s)
		}
	})
	for _, s := range l {
		// What stands at s is found by going down one name after another.
		if strings.HasPrefix(s, "/") || slices.ContainsFunc(path.Parts(s), func(n string) bool { return n == ".." || n == "." || n == "" }) {
			t.Fatalf("%q", s)
		}
		if !path.Under(s, "") || climb(t, s) != path.Depth(s) {
			t.Fatalf("%q is not below the root", s)
		}
	}
}

func TestJoinStaysInItsDirectory(t *testing.T) {
	for _, dir := range valid {
		for _, name := range []string{"", ".", "..", "/", "/..", "../", "../..", "../a", "a/..", "a/../..", "/a", "..\x00", "\x00.."} {
			if s, code := path.Join(dir, name); s != "" || code != api.ErrArg {
				t.Errorf("Join(%q, %q) = %q, %d", dir, name, s, code)
			}
		}
		for _, name := range []string{"a", "...", "..a", ".a", "a..", name20} {
			s, code := path.Join(dir, name)
			if code == api.OK && (!path.Under(s, dir) || path.Depth(s) != path.Depth(dir)+1) {
				t.Errorf("Join(%q, %q) = %q", dir, name, s)
			}
			if code != api.OK && code != api.ErrRange {
				t.Errorf("Join(%q, %q): %d", dir, name, code)
			}
		}
	}
}
