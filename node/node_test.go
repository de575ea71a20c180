package node_test

import (
	"fmt"
	"math"
	"math/rand"
	"reflect"
	"slices"
	"strings"
	"testing"

	"steamer/api"
	"steamer/extent"
	"steamer/meta"
	"steamer/node"
)

const (
	end    = int64(api.MaxSize)
	past   = 1 << 32 // what is lost where 32 bits are kept
	pieces = 16      // the most pieces of a file
)

type list = []api.Piece

func p(at int64, data string) api.Piece { return api.Piece{At: at, Data: data} }

// file returns a file without metadata.
func file(size int64, l ...api.Piece) api.Node {
	return api.Node{Kind: api.KFile, Size: size, Data: l}
}

// owned returns n with valid metadata in which no field is zero.
func owned(n api.Node) api.Node {
	n.Meta = api.Meta{
		Mode: 0o640, Uid: 7, Gid: 8, Time: 1234567890123456789,
		Attrs: []api.Attr{{Name: "a", Value: "1"}, {Name: "b", Value: "2"}},
		Acl:   []api.Ace{{Kind: api.AUser, Id: 5, Perm: 6}, {Kind: api.AMask, Perm: 7}},
	}
	return n
}

// comb returns n pieces of this length, each with a gap of one byte before it.
func comb(n, long int) list {
	var l list
	for i := range n {
		l = append(l, p(int64(1+i*(long+1)), strings.Repeat(string(rune('a'+i%26)), long)))
	}
	return l
}

// behind returns the offset behind the last piece of l.
func behind(l list) int64 { return l[len(l)-1].At + int64(len(l[len(l)-1].Data)) }

// goodFiles are valid files.
func goodFiles() []api.Node {
	l := []api.Node{
		file(0), file(1), file(end), file(3, list{}...), {Kind: api.KFile, Data: list{}},
		file(1, p(0, "a")), file(2, p(0, "a")), file(2, p(1, "a")), file(5, p(3, "ab")), file(1, p(0, "\x00")), file(3, p(0, "\x00\xff\n")),
		file(3, p(0, "a"), p(2, "b")), file(9, p(0, "ab"), p(3, "c"), p(7, "d")), file(end, p(0, "a"), p(end-1, "b")), file(end, p(end-3, "abc")),
		file(past+9, p(past, "ab"), p(past+3, "c")),
		file(api.MaxData, p(0, strings.Repeat("x", api.MaxData))), file(end, p(end-api.MaxData, strings.Repeat("x", api.MaxData))),
		file(api.MaxData+1, p(0, strings.Repeat("x", 1)), p(2, strings.Repeat("y", api.MaxData-1))),
	}
	for _, n := range []int{1, 2, pieces - 1, pieces} {
		c := comb(n, api.MaxData/pieces) // of 16 pieces just as many bytes as there may be
		l = append(l, file(behind(c), c...), file(end, c...))
	}
	return l
}

// goodOthers are valid nodes of the other kinds.
func goodOthers() []api.Node {
	l := []api.Node{{Kind: api.KDir}, {Kind: api.KFifo}, {Kind: api.KDir, Data: list{}}, {Kind: api.KChar}, {Kind: api.KBlock}}
	for _, s := range []string{"a", "/", "..", "\xff", "a/../b", "\u00e9", "\x01", strings.Repeat("t", api.MaxText), strings.Repeat("\u00e9", 100)} {
		l = append(l, api.Node{Kind: api.KLink, Target: s})
	}
	for _, n := range []int{1, 255, 65534, 65535} {
		for _, kind := range []int{api.KChar, api.KBlock} {
			l = append(l, api.Node{Kind: kind, Major: n}, api.Node{Kind: kind, Minor: n}, api.Node{Kind: kind, Major: n, Minor: 65535 - n})
		}
	}
	return l
}

// goodNodes are valid nodes.
func goodNodes() []api.Node {
	l := append(goodFiles(), goodOthers()...)
	for _, n := range slices.Clone(l) {
		l = append(l, owned(n))
	}
	return l
}

// badFiles are invalid files, each broken at one point alone.
func badFiles() []api.Node {
	l := []api.Node{
		file(-1), file(end + 1), file(math.MinInt64), file(math.MaxInt64), file(-past),
		file(1, p(0, "")), file(1, p(1, "")), file(9, p(0, "a"), p(3, "")), file(9, p(0, ""), p(3, "a")), file(end, p(end, "")),
		file(9, p(-1, "a")), file(9, p(-1, "ab")), file(9, p(math.MinInt64, "a")), file(9, p(-past, "a")),
		file(end, p(end+1, "a")), file(end, p(math.MaxInt64, "a")), file(end, p(end, "a")), file(end, p(end-1, "ab")),
		file(0, p(0, "a")), file(1, p(1, "a")), file(1, p(0, "ab")), file(4, p(3, "ab")), file(8, p(0, "a"), p(7, "bc")), file(0, p(past, "a")),
		file(9, p(0, "ab"), p(2, "c")), file(9, p(0, "ab"), p(1, "c")), file(9, p(0, "ab"), p(0, "c")), file(9, p(0, "ab"), p(0, "ab")),
		file(9, p(3, "ab"), p(0, "c")), file(9, p(0, "a"), p(6, "b"), p(3, "c")), file(9, p(0, "a"), p(2, "b"), p(3, "c")),
		file(end, p(0, strings.Repeat("x", api.MaxData+1))), file(end, p(0, strings.Repeat("x", api.MaxData)), p(end-1, "y")),
		file(end, p(0, strings.Repeat("x", 1<<20))),
		file(end, comb(pieces+1, 1)...), file(end, comb(pieces+1, api.MaxData/(pieces+1))...), file(end, comb(1000, 1)...),
	}
	c := comb(pieces, api.MaxData/pieces)
	l = append(l, file(behind(c)-1, c...), file(0, c...), file(end, append(c[:15:15], p(c[15].At, c[15].Data+"x"))...))
	for _, n := range []api.Node{file(0), file(5, p(3, "ab"))} {
		n.Target = "t"
		l = append(l, n)
		n.Target, n.Major = "", 1
		l = append(l, n)
		n.Major, n.Minor = 0, 1
		l = append(l, n)
	}
	return l
}

// badOthers are invalid nodes that are no files, each broken at one point alone.
func badOthers() []api.Node {
	l := []api.Node{{}, {Kind: -1}, {Kind: 7}, {Kind: 8}, {Kind: math.MinInt}, {Kind: math.MaxInt}, {Kind: past + api.KDir}, {Kind: 256 + api.KDir}}
	for _, s := range []string{"", "\x00", "a\x00", "\x00a", "a\x00b", strings.Repeat("t", api.MaxText+1), strings.Repeat("\u00e9", 101), strings.Repeat("t", 1<<20)} {
		l = append(l, api.Node{Kind: api.KLink, Target: s})
	}
	for _, n := range []int{-1, 65536, past, math.MinInt, math.MaxInt} {
		for _, kind := range []int{api.KChar, api.KBlock} {
			l = append(l, api.Node{Kind: kind, Major: n}, api.Node{Kind: kind, Minor: n}, api.Node{Kind: kind, Major: n, Minor: 1})
		}
	}
	for _, n := range []api.Node{{Kind: api.KDir}, {Kind: api.KLink, Target: "t"}, {Kind: api.KChar, Major: 1}, {Kind: api.KBlock, Minor: 1}, {Kind: api.KFifo}} {
		for _, size := range []int64{1, -1, end, past} {
			l = append(l, with(n, func(n *api.Node) { n.Size = size }))
		}
		l = append(l, with(n, func(n *api.Node) { n.Data = list{{}} }), with(n, func(n *api.Node) { n.Data = list{p(0, "a")} }),
			with(n, func(n *api.Node) { n.Size, n.Data = 1, list{p(0, "a")} }))
		if n.Kind != api.KLink {
			l = append(l, with(n, func(n *api.Node) { n.Target = "t" }), with(n, func(n *api.Node) { n.Target = "\x00" }))
		}
		if n.Kind != api.KChar && n.Kind != api.KBlock {
			l = append(l, with(n, func(n *api.Node) { n.Major = 1 }), with(n, func(n *api.Node) { n.Minor = -1 }))
		}
	}
	return l
}

// with returns n after a change.
func with(n api.Node, f func(n *api.Node)) api.Node {
	f(&n)
	return n
}

// badNodes are invalid nodes, each broken at one point alone.
func badNodes() []api.Node {
	l := append(badFiles(), badOthers()...)
	for _, n := range slices.Clone(l) {
		l = append(l, owned(n))
	}
	for _, n := range []api.Node{file(0), file(5, p(3, "ab")), {Kind: api.KDir}, {Kind: api.KLink, Target: "t"}, {Kind: api.KChar}, {Kind: api.KBlock}, {Kind: api.KFifo}} {
		l = append(l, with(n, func(n *api.Node) { n.Meta.Mode = 4096 }), with(n, func(n *api.Node) { n.Meta.Uid = -1 }),
			with(n, func(n *api.Node) { n.Meta.Attrs = []api.Attr{{}} }), with(n, func(n *api.Node) { n.Meta.Acl = []api.Ace{{Kind: api.AUser}} }))
	}
	return l
}

// deep returns a copy of n, apart from the code.
func deep(n api.Node) api.Node {
	n.Data, n.Meta.Attrs, n.Meta.Acl = slices.Clone(n.Data), slices.Clone(n.Meta.Attrs), slices.Clone(n.Meta.Acl)
	return n
}

// equal reports whether all fields are equal, apart from the code: an empty list is an empty list, nil or not.
func equal(a, b api.Node) bool {
	bare := func(n api.Node) api.Node {
		n.Data, n.Meta.Attrs, n.Meta.Acl = append(list{}, n.Data...), append([]api.Attr{}, n.Meta.Attrs...), append([]api.Ace{}, n.Meta.Acl...)
		return n
	}
	return reflect.DeepEqual(bare(a), bare(b))
}

func show(n api.Node) string { return fmt.Sprintf("%.200s", fmt.Sprintf("%+v", n)) }

func TestExamplesAreAtTheLimits(t *testing.T) {
	if api.MaxSize != 1<<40 || api.MaxData != 4000 || api.MaxText != 200 || api.MaxData%pieces != 0 {
		t.Fatal("the limits are not the document's")
	}
}

// Promise 5.1.

func TestMay(t *testing.T) {
	for i, n := range goodNodes() {
		if old := deep(n); !node.May(n) || !equal(n, old) {
			t.Errorf("%d: %s is valid", i, show(n))
		}
	}
	for i, n := range badNodes() {
		if old := deep(n); node.May(n) || !equal(n, old) {
			t.Errorf("%d: %s is not valid", i, show(n))
		}
	}
}

func TestExtentsAndBytes(t *testing.T) {
	for i, x := range []struct {
		n     api.Node
		want  []complex128
		bytes int
	}{
		{api.Node{}, nil, 0}, {file(7), nil, 0}, {file(5, p(3, "ab")), []complex128{3 + 2i}, 2},
		{file(9, p(0, "ab"), p(3, "c"), p(7, "d")), []complex128{0 + 2i, 3 + 1i, 7 + 1i}, 4},
		{file(end, p(end-1, "a")), []complex128{complex(float64(end-1), 1)}, 1},
		// of nodes that are not valid: nothing is merged, put in order or left out
		{file(0, p(3, "ab"), p(0, "abc"), p(3, "ab"), p(9, "")), []complex128{3 + 2i, 0 + 3i, 3 + 2i, 9}, 7},
		{file(0, p(-1, "ab"), p(math.MinInt64, "")), []complex128{0 + 2i, 0}, 2},
		{file(0, p(end+1, "ab"), p(math.MaxInt64, "c")), []complex128{complex(float64(end), 2), complex(float64(end), 1)}, 3},
		{api.Node{Kind: api.KDir, Data: list{p(1, "a")}}, []complex128{1 + 1i}, 1},
		{api.Node{Kind: -9, Size: -1, Target: "abc", Data: list{p(1, strings.Repeat("x", 5000))}}, []complex128{1 + 5000i}, 5000},
		{file(0, comb(20, 1000)...), combed(20, 1000), 20000},
	} {
		old := deep(x.n)
		if got := node.Extents(x.n); !slices.Equal(got, x.want) {
			t.Errorf("%d: Extents = %v", i, got)
		}
		if got := node.Bytes(x.n); got != x.bytes || !equal(x.n, old) {
			t.Errorf("%d: Bytes = %d", i, got)
		}
	}
}

// combed returns the extents of comb.
func combed(n, long int) []complex128 {
	var l []complex128
	for i := range n {
		l = append(l, complex(float64(1+i*(long+1)), float64(long)))
	}
	return l
}

// Every list of up to three pieces at small offsets is judged by the set of its offsets.
func TestMayOfAllSmallFiles(t *testing.T) {
	right := 0
	var grow func(l list)
	grow = func(l list) {
		for size := int64(-1); size <= 6; size++ {
			want := size >= 0 && apart(l) && (len(l) == 0 || behind(l) <= size)
			if node.May(file(size, l...)) != want {
				t.Fatalf("May of %v with Size %d = %v", l, size, !want)
			}
			if want {
				right++
			}
		}
		for at := int64(-1); len(l) < 3 && at <= 5; at++ {
			for _, s := range []string{"", "a", "bc"} {
				grow(append(slices.Clone(l), p(at, s)))
			}
		}
	}
	grow(nil)
	if right < 90 {
		t.Fatal(right)
	}
}

// apart reports whether the pieces of l rise, with a gap before each, and are not empty.
func apart(l list) bool {
	last := int64(-1)
	for _, x := range l {
		if x.Data == "" || x.At <= last {
			return false
		}
		last = x.At + int64(len(x.Data))
	}
	return true
}

// Promise 5.2.

func TestWrite(t *testing.T) {
	for i, x := range []struct {
		n    api.Node
		at   int64
		data string
		want api.Node
	}{
		{file(0), 3, "ab", file(5, p(3, "ab"))}, // the document's example
		{file(0), 0, "ab", file(2, p(0, "ab"))}, {file(9), 3, "ab", file(9, p(3, "ab"))}, {file(4), 3, "ab", file(5, p(3, "ab"))}, {file(5), 3, "ab", file(5, p(3, "ab"))},
		{file(2, p(0, "ab")), 2, "cd", file(4, p(0, "abcd"))}, {file(9, p(2, "cd")), 0, "ab", file(9, p(0, "abcd"))}, // they touch
		{file(2, p(0, "ab")), 3, "cd", file(5, p(0, "ab"), p(3, "cd"))}, {file(9, p(3, "cd")), 0, "ab", file(9, p(0, "ab"), p(3, "cd"))}, // and here not
		{file(9, p(0, "ab"), p(3, "de")), 2, "c", file(9, p(0, "abcde"))}, {file(9, p(0, "ab"), p(4, "ef")), 2, "cd", file(9, p(0, "abcdef"))},
		{file(4, p(0, "abcd")), 1, "xy", file(4, p(0, "axyd"))}, {file(4, p(0, "abcd")), 0, "wxyz", file(4, p(0, "wxyz"))}, {file(4, p(0, "abcd")), 2, "xyz", file(5, p(0, "abxyz"))},
		{file(4, p(1, "abc")), 0, "xy", file(4, p(0, "xybc"))}, {file(9, p(1, "a"), p(3, "b"), p(5, "c")), 0, "uvwxyz", file(9, p(0, "uvwxyz"))},
		{file(9, p(1, "abc"), p(5, "def")), 3, "xyz", file(9, p(1, "abxyzef"))}, {file(9, p(1, "a"), p(3, "b"), p(5, "c")), 3, "x", file(9, p(1, "a"), p(3, "x"), p(5, "c"))},
		{file(9, p(4, "m")), 0, "a", file(9, p(0, "a"), p(4, "m"))}, {file(9, p(0, "a"), p(8, "z")), 4, "m", file(9, p(0, "a"), p(4, "m"), p(8, "z"))},
		{file(2, p(0, "ab")), 0, "\x00\x00", file(2, p(0, "\x00\x00"))}, {file(3), 1, "\x00", file(3, p(1, "\x00"))}, // bytes 0 are no hole
		{file(0), end - 2, "ab", file(end, p(end-2, "ab"))}, {file(end, p(end-1, "b")), end - 2, "a", file(end, p(end-2, "ab"))}, {file(1, p(0, "a")), past, "b", file(past+1, p(0, "a"), p(past, "b"))},
		// empty data changes nothing, wherever it is written
		{file(0), 0, "", file(0)}, {file(0), 3, "", file(0)}, {file(0), end, "", file(0)}, {file(end), end, "", file(end)}, {file(2, p(0, "ab")), 9, "", file(2, p(0, "ab"))},
		{file(9, p(0, "ab"), p(3, "c")), 2, "", file(9, p(0, "ab"), p(3, "c"))}, {file(9, p(0, "ab")), 1, "", file(9, p(0, "ab"))},
	} {
		for _, f := range []func(n api.Node) api.Node{deep, owned} {
			if got, code := node.Write(f(x.n), x.at, x.data); code != api.OK || !equal(got, f(x.want)) {
				t.Errorf("%d: Write(%s, %d, %q) = %s, %d", i, show(x.n), x.at, x.data, show(got), code)
			}
		}
	}
}

// Writes up to the limits, and one step beyond them.
func TestWriteAtTheLimits(t *testing.T) {
	full, most, short := strings.Repeat("x", api.MaxData), comb(pieces, 2), comb(pieces, api.MaxData/pieces)
	for i, x := range []struct {
		n    api.Node
		at   int64
		data string
		want int
	}{
		{file(0), 0, full, api.OK}, {file(0), 0, full + "x", api.ErrLimit}, {file(0), end - api.MaxData, full, api.OK}, {file(0), 0, strings.Repeat("x", 1<<20), api.ErrLimit},
		{file(end, p(0, full)), 0, full, api.OK}, {file(end, p(0, full)), 1, full, api.ErrLimit}, {file(end, p(0, full)), api.MaxData, "x", api.ErrLimit}, {file(end, p(0, full)), api.MaxData - 1, "x", api.OK},
		{file(end, p(0, full)), end - 1, "x", api.ErrLimit}, {file(end, p(0, full[1:])), end - 1, "x", api.OK}, {file(end, p(0, full[1:])), end - 2, "xy", api.ErrLimit},
		{file(end, p(1, full[1:])), 0, "x", api.OK}, {file(end, p(1, full[1:])), 0, "xy", api.OK}, {file(end, p(2, full[1:])), 0, "xy", api.ErrLimit},
		{file(end, comb(15, 2)...), end - 2, "xy", api.OK}, {file(end, most...), end - 2, "xy", api.ErrLimit}, {file(end, most...), behind(most) + 1, "x", api.ErrLimit},
		{file(end, most...), behind(most), "x", api.OK}, {file(end, most...), 0, "x", api.OK}, {file(end, most...), 3, "x", api.OK}, {file(end, most...), 0, full, api.OK},
		{file(end, most...), most[15].At, full, api.ErrLimit}, {file(end, most...), most[0].At, full, api.OK}, {file(end, most...), most[1].At, full[2:], api.OK}, {file(end, most...), most[1].At, full[1:], api.ErrLimit},
		{file(end, short...), 0, "x", api.ErrLimit}, {file(end, short...), 1, full[:8], api.OK}, {file(end, short...), behind(short), "x", api.ErrLimit}, {file(end, short...), end - 1, "x", api.ErrLimit},
		{file(end, short...), 0, "", api.OK},
	} {
		if !node.May(x.n) {
			t.Fatal(i)
		}
		got, code := node.Write(owned(x.n), x.at, x.data)
		if code != x.want || !node.May(got) || code != api.OK && !equal(got, owned(x.n)) {
			t.Errorf("%d: Write(%s, %d, %.20q) = %s, %d", i, show(x.n), x.at, x.data, show(got), code)
		}
		if code == api.OK && x.data != "" {
			if back, c := node.Read(got, x.at, len(x.data)); back != x.data || c != api.OK {
				t.Errorf("%d: read %q, %d", i, back, c)
			}
		}
	}
}

func TestWriteErrors(t *testing.T) {
	full := strings.Repeat("x", api.MaxData)
	most := file(end, comb(pieces, 2)...)
	for i, x := range []struct {
		at   int64
		data string
		want int
	}{
		{-1, "", api.ErrArg}, {-1, "a", api.ErrArg}, {end + 1, "", api.ErrArg}, {end + 1, "a", api.ErrArg}, {math.MinInt64, "a", api.ErrArg}, {math.MaxInt64, "a", api.ErrArg}, {math.MaxInt64, "", api.ErrArg},
		{-1, full + "x", api.ErrArg}, {-past, "a", api.ErrArg}, {past << 20, "", api.ErrArg},
		{end, "a", api.ErrRange}, {end - 1, "ab", api.ErrRange}, {end - 1, full + "x", api.ErrRange}, {end - api.MaxData, full + "x", api.ErrRange}, {end, full + full, api.ErrRange},
		{end - 1, "a", api.ErrLimit}, {end - api.MaxData - 1, full + "x", api.ErrLimit}, {end - api.MaxData, full, api.ErrLimit},
	} {
		for _, n := range []api.Node{most, owned(most)} {
			if got, code := node.Write(n, x.at, x.data); code != x.want || !equal(got, n) {
				t.Errorf("%d: Write at %d of %d bytes = %s, %d", i, x.at, len(x.data), show(got), code)
			}
		}
	}
	for i, n := range noFiles() {
		for _, at := range []int64{0, -1, 3, end, math.MaxInt64} {
			for _, data := range []string{"", "ab", full + "x"} {
				if got, code := node.Write(n, at, data); code != api.ErrArg || !equal(got, n) {
					t.Errorf("%d: Write(%s, %d, %.20q) = %s, %d", i, show(n), at, data, show(got), code)
				}
			}
		}
	}
}

// noFiles are nodes that are not valid or not files.
func noFiles() []api.Node { return append(goodOthers(), badNodes()...) }

func TestCut(t *testing.T) {
	two := []api.Piece{p(1, "abc"), p(5, "def")}
	for i, x := range []struct {
		n    api.Node
		size int64
		want api.Node
	}{
		{file(0), 0, file(0)}, {file(0), 7, file(7)}, {file(0), end, file(end)}, {file(end), 0, file(0)}, {file(5), 3, file(3)}, {file(5), past, file(past)},
		{file(9, two...), 9, file(9, two...)}, {file(9, two...), end, file(end, two...)}, {file(9, two...), 8, file(8, two...)}, {file(8, two...), 9, file(9, two...)},
		{file(9, two...), 7, file(7, two[0], p(5, "de"))}, {file(9, two...), 6, file(6, two[0], p(5, "d"))}, {file(9, two...), 5, file(5, two[0])}, {file(9, two...), 4, file(4, two[0])},
		{file(9, two...), 3, file(3, p(1, "ab"))}, {file(9, two...), 2, file(2, p(1, "a"))}, {file(9, two...), 1, file(1)}, {file(9, two...), 0, file(0)},
		{file(end, p(end-2, "ab")), end - 1, file(end-1, p(end-2, "a"))}, {file(end, p(end-2, "ab")), end, file(end, p(end-2, "ab"))}, {file(end, p(end-2, "ab")), end - 2, file(end - 2)},
		{file(2, p(0, "\x00\x00")), 1, file(1, p(0, "\x00"))},
	} {
		for _, f := range []func(n api.Node) api.Node{deep, owned} {
			if got, code := node.Cut(f(x.n), x.size); code != api.OK || !equal(got, f(x.want)) {
				t.Errorf("%d: Cut(%s, %d) = %s, %d", i, show(x.n), x.size, show(got), code)
			}
		}
	}
	// What was cut off does not come back.
	n, _ := node.Cut(file(9, two...), 3)
	if n, _ = node.Cut(n, 9); !equal(n, file(9, p(1, "ab"))) {
		t.Error(show(n))
	}
}

func TestCutErrors(t *testing.T) {
	for _, size := range []int64{-1, end + 1, -past, math.MinInt64, math.MaxInt64} {
		for _, n := range []api.Node{file(0), file(5, p(3, "ab")), owned(file(5, p(3, "ab")))} {
			if got, code := node.Cut(n, size); code != api.ErrArg || !equal(got, n) {
				t.Errorf("Cut(%s, %d) = %s, %d", show(n), size, show(got), code)
			}
		}
	}
	for i, n := range noFiles() {
		for _, size := range []int64{0, 1, -1, 5, end, end + 1} {
			if got, code := node.Cut(n, size); code != api.ErrArg || !equal(got, n) {
				t.Errorf("%d: Cut(%s, %d) = %s, %d", i, show(n), size, show(got), code)
			}
		}
	}
}

func TestRead(t *testing.T) {
	full := strings.Repeat("x", api.MaxData)
	two := file(9, p(1, "abc"), p(5, "def"))
	for i, x := range []struct {
		n    api.Node
		at   int64
		long int
		want string
	}{
		{file(0), 0, 0, ""}, {file(0), 0, 9, ""}, {file(0), 9, 9, ""}, {file(3), 0, 9, "\x00\x00\x00"}, {file(3), 1, 1, "\x00"}, {file(3), 3, 9, ""}, {file(3), 2, 9, "\x00"},
		{two, 0, 99, "\x00abc\x00def\x00"}, {two, 0, 9, "\x00abc\x00def\x00"}, {two, 0, 8, "\x00abc\x00def"}, {two, 1, 3, "abc"}, {two, 2, 1, "b"}, {two, 2, 4, "bc\x00d"}, {two, 4, 1, "\x00"}, {two, 4, 2, "\x00d"},
		{two, 3, 0, ""}, {two, 7, 9, "f\x00"}, {two, 8, 9, "\x00"}, {two, 9, 9, ""}, {two, 10, 9, ""}, {two, end, 9, ""}, {two, end + 1, 9, ""}, {two, math.MaxInt64, api.MaxData, ""}, {two, math.MaxInt64, 0, ""},
		{file(end, p(end-2, "ab")), end - 3, 9, "\x00ab"}, {file(end, p(end-2, "ab")), end - 1, 9, "b"}, {file(end, p(end-2, "ab")), end, 9, ""}, {file(end, p(end-2, "ab")), 0, 2, "\x00\x00"},
		{file(end, p(0, full)), 0, api.MaxData, full}, {file(end, p(0, full)), 1, api.MaxData, full[1:] + "\x00"}, {file(end), past, api.MaxData, strings.Repeat("\x00", api.MaxData)},
		{file(past+3, p(past, "abc")), past + 1, 9, "bc"},
	} {
		for _, f := range []func(n api.Node) api.Node{deep, owned} {
			n := f(x.n)
			if got, code := node.Read(n, x.at, x.long); code != api.OK || got != x.want || !equal(n, f(x.n)) {
				t.Errorf("%d: Read(%s, %d, %d) = %q, %d", i, show(x.n), x.at, x.long, got, code)
			}
		}
	}
}

func TestReadErrors(t *testing.T) {
	for i, x := range []struct {
		at   int64
		long int
	}{{-1, 0}, {-1, 1}, {math.MinInt64, 1}, {-past, 1}, {0, -1}, {0, api.MaxData + 1}, {0, math.MaxInt}, {0, math.MinInt}, {0, past}, {9, -1}, {math.MaxInt64, api.MaxData + 1}, {-1, -1}} {
		for _, n := range []api.Node{file(0), file(5, p(0, "abcde"))} {
			if got, code := node.Read(n, x.at, x.long); code != api.ErrArg || got != "" {
				t.Errorf("%d: Read(%s, %d, %d) = %q, %d", i, show(n), x.at, x.long, got, code)
			}
		}
	}
	for i, n := range noFiles() {
		for _, at := range []int64{0, -1, 3, end} {
			for _, long := range []int{0, 1, -1, api.MaxData, api.MaxData + 1} {
				if got, code := node.Read(n, at, long); code != api.ErrArg || got != "" {
					t.Errorf("%d: Read(%s, %d, %d) = %q, %d", i, show(n), at, long, got, code)
				}
			}
		}
	}
}

// model is a file apart from the code: the bytes that are there, by their offsets.
type model struct {
	size  int64
	bytes map[int64]byte
}

func modelOf(n api.Node) model {
	m := model{n.Size, map[int64]byte{}}
	for _, x := range n.Data {
		m.write(x.At, x.Data)
	}
	return m
}

func (m *model) write(at int64, data string) {
	for i := range len(data) {
		m.bytes[at+int64(i)] = data[i]
		m.size = max(m.size, at+int64(i)+1)
	}
}

func (m *model) cut(size int64) {
	for at := range m.bytes {
		if at >= size {
			delete(m.bytes, at)
		}
	}
	m.size = size
}

func (m *model) read(at int64, long int) string {
	var s []byte
	for ; long > 0 && at < m.size; long-- {
		s = append(s, m.bytes[at]) // 0 where there is none
		at++
	}
	return string(s)
}

// node returns the only file that is this model's.
func (m *model) node() api.Node {
	n := file(m.size)
	var at []int64
	for x := range m.bytes {
		at = append(at, x)
	}
	slices.Sort(at)
	var run []byte
	for i, x := range at {
		run = append(run, m.bytes[x])
		if i+1 == len(at) || at[i+1] > x+1 {
			n.Data = append(n.Data, p(x+1-int64(len(run)), string(run)))
			run = nil
		}
	}
	return n
}

// everyFile calls f with every file of Size 0 to 6 that has the byte o of its offset or a hole at each offset.
func everyFile(f func(n api.Node)) {
	for size := int64(0); size <= 6; size++ {
		for set := range 1 << size {
			m := model{size, map[int64]byte{}}
			for at := range size {
				if set>>at&1 != 0 {
					m.bytes[at] = byte('a' + at)
				}
			}
			f(m.node())
		}
	}
}

func TestAllCallsOnAllSmallFiles(t *testing.T) {
	everyFile(func(n api.Node) {
		if !node.May(n) || !node.Same(n, deep(n)) {
			t.Fatal(show(n))
		}
		for at := int64(0); at <= 8; at++ {
			for long := range 9 {
				data, m := "STUVWXYZ"[:long], modelOf(n)
				if got, code := node.Read(n, at, long); code != api.OK || got != m.read(at, long) {
					t.Fatalf("Read(%s, %d, %d) = %q, %d", show(n), at, long, got, code)
				}
				m.write(at, data)
				if got, code := node.Write(n, at, data); code != api.OK || !equal(got, m.node()) {
					t.Fatalf("Write(%s, %d, %q) = %s, %d", show(n), at, data, show(got), code)
				}
			}
			m := modelOf(n)
			m.cut(at)
			if got, code := node.Cut(n, at); code != api.OK || !equal(got, m.node()) {
				t.Fatalf("Cut(%s, %d) = %s, %d", show(n), at, show(got), code)
			}
		}
	})
}

// step does something to n and to its model, and returns the error that it had and whether they agree.
func step(r *rand.Rand, n api.Node, m *model) (api.Node, int, bool) {
	base := []int64{0, 4500, past, end - 6000}[r.Intn(4)]
	at := min(base+int64(r.Intn(6000)), end)
	if r.Intn(12) == 0 {
		m.cut(at)
		got, code := node.Cut(n, at)
		return got, code, code == api.OK && equal(got, m.node())
	}
	long := []int{1, 30, 300, 2500, 5000}[r.Intn(5)]
	data := make([]byte, r.Intn(long))
	r.Read(data)
	next := model{m.size, map[int64]byte{}}
	for k, v := range m.bytes {
		next.bytes[k] = v
	}
	next.write(at, string(data))
	want, code := api.OK, 0
	if l := next.node(); next.size > end {
		want = api.ErrRange
	} else if len(l.Data) > pieces || len(next.bytes) > api.MaxData {
		want = api.ErrLimit
	} else {
		*m = next
	}
	n, code = node.Write(n, at, string(data))
	return n, code, code == want && equal(n, m.node())
}

func TestManyWritesAndCuts(t *testing.T) {
	r := rand.New(rand.NewSource(1))
	seen := map[int]int{}
	for range 60 {
		n, m, code, ok := file(0), model{0, map[int64]byte{}}, 0, true
		for i := range 40 {
			if n, code, ok = step(r, n, &m); !ok || !node.May(n) || node.Bytes(n) != len(m.bytes) {
				t.Fatalf("step %d: %s", i, show(n))
			}
			seen[code]++
			seen[-len(n.Data)]++
			at := max(m.size-int64(r.Intn(9000)), 0)
			if got, code := node.Read(n, at, api.MaxData); code != api.OK || got != m.read(at, api.MaxData) {
				t.Fatalf("step %d: read at %d", i, at)
			}
		}
	}
	if seen[api.OK] < 100 || seen[api.ErrRange] < 10 || seen[api.ErrLimit] < 100 || seen[-pieces] < 10 {
		t.Fatal(seen)
	}
}

func TestResultsAreNewMemory(t *testing.T) {
	calls := []func(n api.Node) api.Node{
		func(n api.Node) api.Node { got, _ := node.Write(n, 3, "x"); return got },
		func(n api.Node) api.Node { got, _ := node.Write(n, 3, ""); return got },
		func(n api.Node) api.Node { got, _ := node.Write(n, -1, "x"); return got },
		func(n api.Node) api.Node { got, _ := node.Write(n, end, "x"); return got },
		func(n api.Node) api.Node {
			got, _ := node.Write(n, 3, strings.Repeat("x", api.MaxData+1))
			return got
		},
		func(n api.Node) api.Node { got, _ := node.Cut(n, 2); return got },
		func(n api.Node) api.Node { got, _ := node.Cut(n, n.Size); return got },
		func(n api.Node) api.Node { got, _ := node.Cut(n, end); return got },
		func(n api.Node) api.Node { got, _ := node.Cut(n, -1); return got },
	}
	for i, call := range calls {
		for _, n := range append(goodNodes(), badNodes()...) {
			n.Data, n.Meta.Attrs, n.Meta.Acl = slices.Grow(n.Data, 2), slices.Grow(n.Meta.Attrs, 2), slices.Grow(n.Meta.Acl, 2)
			all := func() []any {
				return []any{n, slices.Clone(n.Data[:cap(n.Data)]), slices.Clone(n.Meta.Attrs[:cap(n.Meta.Attrs)]), slices.Clone(n.Meta.Acl[:cap(n.Meta.Acl)])}
			}
			n0 := deep(n)
			old := all()
			old[0] = n0
			got := call(n)
			spoil(&got)
			now := all()
			if !equal(n, n0) || !reflect.DeepEqual(now[1:], old[1:]) {
				t.Fatalf("%d: %s was changed to %s", i, show(n0), show(n))
			}
		}
	}
	n := file(9, p(0, "ab"), p(3, "c"))
	l := node.Extents(n)
	l[0] = 7 + 7i
	if !slices.Equal(node.Extents(n), []complex128{0 + 2i, 3 + 1i}) {
		t.Fatal("the extents share memory")
	}
}

// spoil changes all that the lists of n have, and what lies behind them.
func spoil(n *api.Node) {
	for i := range n.Data {
		n.Data[i] = p(77, "other")
	}
	for i := range n.Meta.Attrs {
		n.Meta.Attrs[i] = api.Attr{Name: "other"}
	}
	for i := range n.Meta.Acl {
		n.Meta.Acl[i] = api.Ace{Kind: 77}
	}
	n.Data, n.Meta.Attrs, n.Meta.Acl = append(n.Data, p(7, "more")), append(n.Meta.Attrs, api.Attr{Name: "more"}), append(n.Meta.Acl, api.Ace{Id: 7})
}

// Great nodes are judged, compared and refused in a short time.
func TestGreatNodes(t *testing.T) {
	great := file(end, comb(1<<18, 1)...)
	if node.May(great) || len(node.Extents(great)) != 1<<18 || node.Bytes(great) != 1<<18 || !node.Same(great, deep(great)) {
		t.Fatal("a file of many pieces")
	}
	if got, code := node.Write(great, 0, "x"); code != api.ErrArg || !equal(got, great) {
		t.Fatal(code)
	}
	long := strings.Repeat("x", 1<<26)
	if got, code := node.Write(file(3), 0, long); code != api.ErrLimit || !equal(got, file(3)) {
		t.Fatal(code)
	}
	if got, code := node.Write(file(3), end-5, long); code != api.ErrRange || !equal(got, file(3)) {
		t.Fatal(code)
	}
	if n := file(end, p(0, long), p(1<<30, long)); node.May(n) || node.Bytes(n) != 1<<27 || node.Diff(n, file(end, p(0, long), p(1<<30, long[1:]))) != "data" {
		t.Fatal("a file of many bytes")
	}
}

// Promise 5.3.

// change is a change to a node, and the name of the difference that it makes.
type change struct {
	name string
	f    func(n *api.Node)
}

// changes are in the order in which Diff looks at them.
func changes() []change {
	return []change{
		{"kind", func(n *api.Node) { n.Kind += past }},
		{"mode", func(n *api.Node) { n.Meta.Mode++ }},
		{"uid", func(n *api.Node) { n.Meta.Uid++ }},
		{"gid", func(n *api.Node) { n.Meta.Gid++ }},
		{"time", func(n *api.Node) { n.Meta.Time++ }},
		{"attrs", func(n *api.Node) { n.Meta.Attrs = append(slices.Clone(n.Meta.Attrs), api.Attr{}) }},
		{"acl", func(n *api.Node) { n.Meta.Acl = append(slices.Clone(n.Meta.Acl), api.Ace{}) }},
		{"size", func(n *api.Node) { n.Size += past }},
		{"data", func(n *api.Node) { n.Data = append(slices.Clone(n.Data), api.Piece{}) }},
		{"target", func(n *api.Node) { n.Target += "\x00" }},
		{"device", func(n *api.Node) { n.Major += past }},
		{"device", func(n *api.Node) { n.Minor -= past }},
	}
}

// Whatever fields are changed, the first of them is told.
func TestDiffOfEverySetOfChanges(t *testing.T) {
	all := changes()
	for _, n := range []api.Node{{}, owned(file(5, p(3, "ab"))), owned(api.Node{Kind: 99, Size: -1, Data: comb(20, 1), Target: "t", Major: -1, Minor: 70000})} {
		for set := range 1 << len(all) {
			m, want := deep(n), ""
			for i, c := range slices.Backward(all) {
				if set>>i&1 != 0 {
					c.f(&m)
					want = c.name
				}
			}
			if got := node.Diff(n, m); got != want || node.Diff(m, n) != want || node.Same(n, m) != (want == "") || node.Same(m, n) != (want == "") {
				t.Fatalf("Diff(%s, %s) = %q", show(n), show(m), got)
			}
		}
	}
}

// Every change of any field is a difference, on valid nodes and on others.
func TestSame(t *testing.T) {
	l := append(distinct(goodNodes()), distinct(badNodes())...)
	l = append(l, file(9, p(0, "a")), file(9, p(1, "a")), file(9, p(0, "b")), file(9, p(0, "a\x00")), file(9, p(past, "a")), file(9, p(0, "a"), p(3, "b")), file(9, p(3, "b"), p(0, "a")),
		file(9, p(0, "a"), p(1, "b")), file(9, p(0, "a"), p(0, "a")), file(9, p(0, "ab")), file(9, p(0, "ab"), p(7, "")), file(9, p(0, "ab"), p(8, "")))
	l = distinct(l)
	for i, a := range l {
		for j, b := range l {
			if a.Kind != b.Kind && (i+j)%5 != 0 {
				continue // that is told apart everywhere alike
			}
			diff := node.Diff(a, deep(b))
			if node.Same(a, deep(b)) != (i == j) || (diff == "") != (i == j) || diff != node.Diff(b, a) {
				t.Fatalf("%s and %s: %q", show(a), show(b), diff)
			}
		}
	}
	none, empty := file(3), file(3, list{}...)
	empty.Data, empty.Meta.Attrs, empty.Meta.Acl = list{}, []api.Attr{}, []api.Ace{}
	if !node.Same(none, empty) || !node.Same(empty, none) || node.Diff(none, empty) != "" || node.Diff(empty, none) != "" {
		t.Error("no pieces are the same as no pieces")
	}
}

// distinct returns l without what stands in it before.
func distinct(l []api.Node) []api.Node {
	var out []api.Node
	for _, n := range l {
		if !slices.ContainsFunc(out, func(o api.Node) bool { return equal(n, o) }) {
			out = append(out, n)
		}
	}
	return out
}

func TestDiffTellsWhatMetaTells(t *testing.T) {
	n := owned(file(5, p(3, "ab")))
	for _, c := range changes()[1:7] {
		m := deep(n)
		m.Size = 9
		c.f(&m)
		if got := node.Diff(n, m); got != meta.Diff(n.Meta, m.Meta) || got != c.name {
			t.Errorf("%q, not %q", got, c.name)
		}
	}
}

func TestDiffChangesNothing(t *testing.T) {
	a, b := owned(file(5, p(3, "ab"))), owned(file(5, p(3, "ac")))
	oldA, oldB := deep(a), deep(b)
	if node.Diff(a, b) != "data" || node.Same(a, b) || !equal(a, oldA) || !equal(b, oldB) {
		t.Error("an argument was changed")
	}
}

// Promise 5.4.

// again makes a file anew from what Extents and Read tell of n, and from its Size.
func again(t *testing.T, n api.Node, order []int) api.Node {
	out := with(n, func(n *api.Node) { n.Size, n.Data = 0, nil })
	where := node.Extents(n)
	for _, i := range order {
		data, code := node.Read(n, extent.At(where[i]), int(extent.Long(where[i])))
		if code != api.OK {
			t.Fatal(code)
		}
		if out, code = node.Write(out, extent.At(where[i]), data); code != api.OK {
			t.Fatal(code)
		}
	}
	out, code := node.Cut(out, n.Size)
	if code != api.OK {
		t.Fatal(code)
	}
	return out
}

// T1, as far as this layer goes: a file whose bytes, holes and size are taken over is the file that was there.
func TestFileIsItsBytesItsHolesAndItsSize(t *testing.T) {
	r := rand.New(rand.NewSource(2))
	for _, n := range goodFiles() {
		for range 3 {
			if got := again(t, owned(n), r.Perm(len(n.Data))); !node.Same(got, owned(n)) || !equal(got, owned(n)) {
				t.Fatalf("%s became %s", show(n), show(got))
			}
		}
	}
	everyFile(func(n api.Node) {
		if got := again(t, n, r.Perm(len(n.Data))); !node.Same(got, n) {
			t.Fatalf("%s became %s", show(n), show(got))
		}
	})
}

// Two files are the same just when no byte, no hole and no size tells them apart, however they were written.
func TestFilesThatDifferAreNotTheSame(t *testing.T) {
	var l []api.Node
	everyFile(func(n api.Node) {
		if n.Size <= 4 {
			l = append(l, n)
		}
	})
	for i, a := range l {
		for j, b := range l {
			if node.Same(a, b) != (i == j) {
				t.Fatalf("%s and %s", show(a), show(b))
			}
		}
	}
	// A hole reads as bytes 0, and is not the same as bytes 0.
	hole, zero := file(3, p(0, "a"), p(2, "b")), file(3, p(0, "a\x00b"))
	x, _ := node.Read(hole, 0, 9)
	y, _ := node.Read(zero, 0, 9)
	if x != y || node.Same(hole, zero) || node.Diff(hole, zero) != "data" {
		t.Error("a hole")
	}
	if got, _ := node.Write(hole, 1, "\x00"); !node.Same(got, zero) {
		t.Error(show(got))
	}
	// Written byte by byte, backwards or at once: the same file.
	once, _ := node.Write(file(0), 2, "abcd")
	for _, order := range [][]int{{0, 1, 2, 3}, {3, 2, 1, 0}, {0, 2, 1, 3}, {1, 3, 0, 2}} {
		n := file(0)
		for _, i := range order {
			n, _ = node.Write(n, int64(2+i), "abcd"[i:i+1])
		}
		if !node.Same(n, once) {
			t.Error(show(n))
		}
	}
}
