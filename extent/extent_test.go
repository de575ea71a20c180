package extent_test

import (
	"math"
	"math/bits"
	"slices"
	"testing"

	"steamer/api"
	"steamer/extent"
)

const top = api.MaxSize

var nan, inf = math.NaN(), math.Inf(1)

// Promise 2.1.

func TestOf(t *testing.T) {
	for _, x := range []struct {
		at, long int64
		want     complex128
	}{
		{0, 0, 0}, {3, 4, 3 + 4i}, {0, 7, 7i}, {7, 0, 7},
		{-1, 5, 5i}, {5, -1, 5}, {math.MinInt64, math.MinInt64, 0},
		{top, top, complex(top, top)}, {top - 1, top - 1, complex(top-1, top-1)},
		{top + 1, 1, complex(top, 1)}, {1, top + 1, complex(1, top)},
		{math.MaxInt64, math.MaxInt64, complex(top, top)},
	} {
		z := extent.Of(x.at, x.long)
		if z != x.want {
			t.Errorf("Of(%d, %d) = %v", x.at, x.long, z)
		}
		if math.Signbit(real(z)) || math.Signbit(imag(z)) {
			t.Errorf("Of(%d, %d) has a zero below 0", x.at, x.long)
		}
		if extent.At(z) != min(max(x.at, 0), top) || extent.Long(z) != min(max(x.long, 0), top) {
			t.Errorf("Of(%d, %d) is told as %d, %d", x.at, x.long, extent.At(z), extent.Long(z))
		}
	}
}

func TestAtAndLong(t *testing.T) {
	for _, x := range []struct {
		part float64
		want int64
	}{
		{0, 0}, {math.Copysign(0, -1), 0}, {1, 1}, {250, 250},
		{0.5, 0}, {0.999, 0}, {1.5, 1}, {2.999, 2}, {math.SmallestNonzeroFloat64, 0},
		{-0.5, 0}, {-1, 0}, {-1e300, 0}, {-inf, 0}, {nan, 0},
		{top - 1, top - 1}, {top - 0.5, top - 1}, {top, top}, {top + 0.5, top}, {top + 1, top}, {1 << 63, top}, {1e300, top}, {inf, top},
	} {
		for _, other := range []float64{0, 9, -9, nan, inf} {
			if got := extent.At(complex(x.part, other)); got != x.want {
				t.Errorf("At of %v and %v: %d", x.part, other, got)
			}
			if got := extent.Long(complex(other, x.part)); got != x.want {
				t.Errorf("Long of %v and %v: %d", other, x.part, got)
			}
		}
	}
}

// Promise 2.2.

func TestMay(t *testing.T) {
	for i, x := range []struct {
		l    []complex128
		size int64
		want bool
	}{
		{nil, 0, true}, {[]complex128{}, 5, true}, {nil, top, true},
		{nil, -1, false}, {nil, top + 1, false}, {nil, math.MinInt64, false}, {nil, math.MaxInt64, false},
		{[]complex128{1i}, 1, true}, {[]complex128{1i}, 0, false}, {[]complex128{1i}, -1, false},
		{[]complex128{5i}, 5, true}, {[]complex128{5i}, 4, false}, {[]complex128{5i}, top + 1, false},
		{[]complex128{2 + 3i}, 5, true}, {[]complex128{2 + 3i}, 4, false},
		{[]complex128{0}, 9, false}, {[]complex128{3}, 9, false}, {[]complex128{3 - 1i}, 9, false}, {[]complex128{2i, 5}, 9, false},
		{[]complex128{2i, 3 + 1i}, 9, true}, {[]complex128{2i, 3 + 1i}, 4, true}, {[]complex128{2i, 3 + 1i}, 3, false},
		{[]complex128{2i, 2 + 1i}, 9, false},              // they touch
		{[]complex128{3i, 2 + 5i}, 9, false},              // they overlap
		{[]complex128{1i, 1i}, 9, false},                  // the same twice
		{[]complex128{3 + 1i, 1i}, 9, false},              // falling
		{[]complex128{9i, 3 + 1i}, 9, false},              // one within the other
		{[]complex128{1i, 2 + 1i, 4 + 1i}, 5, true},       // three
		{[]complex128{1i, 2 + 1i, 3 + 1i}, 5, false},      // the last two touch
		{[]complex128{5 + 3i, 2 + 1i}, 8, false},          // the last one ends before the one ahead of it
		{[]complex128{complex(0, top)}, top, true},        // the whole of the greatest file
		{[]complex128{complex(top-1, 1)}, top, true},      // its last byte
		{[]complex128{complex(top-1, 2)}, top, false},     // and one behind it
		{[]complex128{complex(top, 1)}, top, false},       // that one alone
		{[]complex128{complex(top, top)}, top, false},     // no sum is cut off
		{[]complex128{complex(1, inf)}, top, false},       // Long counts as MaxSize
		{[]complex128{complex(0, inf)}, top, true},        // here it ends at the size
		{[]complex128{complex(nan, 1)}, 1, true},          // At counts as 0
		{[]complex128{complex(-7, 1)}, 1, true},           // At counts as 0
		{[]complex128{complex(1, nan)}, 9, false},         // Long counts as 0
		{[]complex128{0.9 + 1.9i}, 1, true},               // fractions are truncated
		{[]complex128{0.5i}, 9, false},                    // to a Long of 0, too
		{[]complex128{1.9i, 1.9 + 1i}, 9, false},          // ends at 1, begins at 1
		{[]complex128{1.9i, 2 + 1i}, 3, true},             // ends at 1, begins at 2
		{[]complex128{2 + 1i, complex(nan, 1)}, 9, false}, // the second one begins at 0
	} {
		if extent.May(x.l, x.size) != x.want {
			t.Errorf("%d: May(%v, %d) = %v", i, x.l, x.size, !x.want)
		}
	}
}

func TestNorm(t *testing.T) {
	for i, x := range []struct{ l, want []complex128 }{
		{nil, nil}, {[]complex128{}, nil}, {[]complex128{0, 5, 7 - 1i, complex(3, nan), 0.9i}, nil},
		{[]complex128{2i, 2 + 3i}, []complex128{5i}}, // the document's example
		{[]complex128{2 + 3i, 2i}, []complex128{5i}},
		{[]complex128{3i, 2 + 3i}, []complex128{5i}},
		{[]complex128{2i, 3 + 2i}, []complex128{2i, 3 + 2i}},
		{[]complex128{3 + 2i, 2i}, []complex128{2i, 3 + 2i}},
		{[]complex128{9i, 3 + 2i, 4 + 1i}, []complex128{9i}}, // what lies within another does not shorten it
		{[]complex128{4 + 1i, 3 + 2i, 9i, 9 + 1i}, []complex128{10i}},
		{[]complex128{1i, 1i, 1i}, []complex128{1i}},
		{[]complex128{5 + 1i, 3 + 1i, 1 + 1i, 4 + 1i}, []complex128{1 + 1i, 3 + 3i}},
		{[]complex128{2i, 2, 3 + 1i}, []complex128{2i, 3 + 1i}}, // an empty extent joins nothing
		{[]complex128{1.7 + 2.9i, 4.2 + 1i}, []complex128{1 + 2i, 4 + 1i}},
		{[]complex128{complex(nan, 2), complex(-4, 3)}, []complex128{3i}},
		{[]complex128{complex(-inf, inf)}, []complex128{complex(0, top)}},
		{[]complex128{complex(inf, inf), complex(top, 1), complex(top+9, 9)}, nil},
		{[]complex128{complex(top-3, 9)}, []complex128{complex(top-3, 3)}},
		{[]complex128{complex(top-1, inf), complex(5, top), 2i}, []complex128{2i, complex(5, top-5)}},
	} {
		old := slices.Clone(x.l)
		got := extent.Norm(x.l)
		if !slices.Equal(got, x.want) {
			t.Errorf("%d: Norm(%v) = %v", i, old, got)
		}
		if !extent.May(got, top) || !slices.Equal(extent.Norm(got), got) {
			t.Errorf("%d: %v is not a list of extents", i, got)
		}
		same(t, old, x.l)
		for k := range got { // new memory
			got[k] = 77
		}
		same(t, old, x.l)
	}
}

// same fails if an argument was changed. (A part that is not a number equals nothing, itself included.)
func same(t *testing.T, old, now []complex128) {
	t.Helper()
	if !slices.EqualFunc(old, now, func(a, b complex128) bool {
		return math.Float64bits(real(a)) == math.Float64bits(real(b)) && math.Float64bits(imag(a)) == math.Float64bits(imag(b))
	}) {
		t.Errorf("the argument %v was changed to %v", old, now)
	}
}

func TestHoles(t *testing.T) {
	for i, x := range []struct {
		l    []complex128
		size int64
		want []complex128
	}{
		{nil, 0, nil}, {nil, 5, []complex128{5i}}, {nil, -1, nil}, {nil, math.MinInt64, nil},
		{nil, top, []complex128{complex(0, top)}}, {nil, top + 1, []complex128{complex(0, top)}}, {nil, math.MaxInt64, []complex128{complex(0, top)}},
		{[]complex128{5i}, 5, nil}, {[]complex128{5i}, 4, nil}, {[]complex128{5i}, 6, []complex128{5 + 1i}},
		{[]complex128{2 + 3i}, 9, []complex128{2i, 5 + 4i}}, {[]complex128{2 + 3i}, 5, []complex128{2i}},
		{[]complex128{2 + 3i}, 2, []complex128{2i}}, {[]complex128{2 + 3i}, 1, []complex128{1i}}, {[]complex128{2 + 3i}, 0, nil},
		{[]complex128{2 + 3i}, 3, []complex128{2i}}, {[]complex128{7 + 2i}, 5, []complex128{5i}},
		{[]complex128{6 + 1i, 2 + 1i, 4 + 2i}, 8, []complex128{2i, 3 + 1i, 7 + 1i}},
		{[]complex128{2i, 3 + 2i}, 3, []complex128{2 + 1i}}, {[]complex128{2i, 3 + 2i}, 2, nil},
		{[]complex128{3, 1.9 + 1.9i}, 5, []complex128{1i, 2 + 3i}},
		{[]complex128{complex(top-2, 9)}, top, []complex128{complex(0, top-2)}},
		{[]complex128{complex(1, inf)}, math.MaxInt64, []complex128{1i}},
		{[]complex128{complex(top-2, 1)}, math.MaxInt64, []complex128{complex(0, top-2), complex(top-1, 1)}},
	} {
		old := slices.Clone(x.l)
		if got := extent.Holes(x.l, x.size); !slices.Equal(got, x.want) {
			t.Errorf("%d: Holes(%v, %d) = %v", i, x.l, x.size, got)
		}
		same(t, old, x.l)
	}
}

func TestMeet(t *testing.T) {
	l := []complex128{7 + 2i, 2 + 2i, 4 + 1i} // 2 to 5, 7 to 9
	for i, x := range []struct {
		l        []complex128
		at, long int64
		want     []complex128
	}{
		{nil, 0, top, nil}, {l, 0, 0, nil}, {l, 3, 0, nil}, {l, 3, -1, nil}, {l, 3, math.MinInt64, nil},
		{l, 0, 99, []complex128{2 + 3i, 7 + 2i}}, {l, 0, math.MaxInt64, []complex128{2 + 3i, 7 + 2i}},
		{l, 0, 2, nil}, {l, 0, 3, []complex128{2 + 1i}}, {l, 2, 3, []complex128{2 + 3i}}, {l, 3, 1, []complex128{3 + 1i}},
		{l, 4, 9, []complex128{4 + 1i, 7 + 2i}}, {l, 4, 4, []complex128{4 + 1i, 7 + 1i}}, {l, 5, 2, nil}, {l, 5, 3, []complex128{7 + 1i}},
		{l, 8, 1, []complex128{8 + 1i}}, {l, 9, 9, nil},
		{l, -5, 3, []complex128{2 + 1i}}, // the range is 0 to 3
		{l, math.MinInt64, 5, []complex128{2 + 3i}},
		{l, math.MaxInt64, math.MaxInt64, nil}, {l, 8, math.MaxInt64, []complex128{8 + 1i}},
		{[]complex128{complex(top-2, 9)}, top - 1, 9, []complex128{complex(top-1, 1)}},
		{[]complex128{complex(top-2, 9)}, top, top, nil},
		{[]complex128{complex(nan, inf)}, 5, 3, []complex128{5 + 3i}},
	} {
		old := slices.Clone(x.l)
		got := extent.Meet(x.l, x.at, x.long)
		if !slices.Equal(got, x.want) {
			t.Errorf("%d: Meet(%v, %d, %d) = %v", i, x.l, x.at, x.long, got)
		}
		for k := range got { // new memory
			got[k] = 77
		}
		same(t, old, x.l)
	}
}

func TestHas(t *testing.T) {
	l := []complex128{7 + 2i, 2 + 2i, 4.9 + 1.9i, 12, complex(nan, 1), complex(top-2, 5)}
	for at, want := range map[int64]bool{
		0: true, 1: false, 2: true, 4: true, 5: false, 6: false, 7: true, 8: true, 9: false, 12: false,
		-1: false, math.MinInt64: false, math.MaxInt64: false,
		top - 3: false, top - 2: true, top - 1: true, top: false, top + 1: false, top + 2: false,
	} {
		if extent.Has(l, at) != want {
			t.Errorf("Has(%d) = %v", at, !want)
		}
	}
	if extent.Has(nil, 0) || extent.Has([]complex128{0}, 0) || extent.Has([]complex128{5i}, -1) {
		t.Error("what holds nothing has an offset")
	}
}

// set holds the offsets 0 to 7 as bits.
type set = uint

// offsets returns which of the first 8 offsets the extents have, each looked at by itself.
func offsets(l []complex128) set {
	var s set
	for _, z := range l {
		for i := range 8 {
			if float64(i) >= real(z) && float64(i) < real(z)+imag(z) {
				s |= 1 << i
			}
		}
	}
	return s
}

// runs returns the extents of a set.
func runs(s set) []complex128 {
	var l []complex128
	for at := 0; s>>at != 0; {
		at += bits.TrailingZeros(s >> at)
		long := bits.TrailingZeros(^(s >> at))
		l = append(l, complex(float64(at), float64(long)))
		at += long
	}
	return l
}

// everyList calls f with every list of at most n extents that lie before the offset 7.
func everyList(n int, f func(l []complex128)) {
	var grow func(l []complex128)
	grow = func(l []complex128) {
		f(slices.Clone(l))
		for at := 0; len(l) < n && at < 7; at += 2 {
			for long := 0; at+long <= 7; long++ {
				grow(append(slices.Clone(l), complex(float64(at), float64(long))))
			}
		}
	}
	grow(nil)
}

func TestAllSmallLists(t *testing.T) {
	seen := 0
	everyList(3, func(l []complex128) {
		seen++
		s := offsets(l)
		if got := extent.Norm(l); !slices.Equal(got, runs(s)) {
			t.Fatalf("Norm(%v) = %v", l, got)
		}
		for n := range int64(8) {
			below := set(1)<<n - 1
			if got := extent.Holes(l, n); !slices.Equal(got, runs(below&^s)) {
				t.Fatalf("Holes(%v, %d) = %v", l, n, got)
			}
			if got := extent.Meet(l, n, 3); !slices.Equal(got, runs(s&(7<<n))) {
				t.Fatalf("Meet(%v, %d, 3) = %v", l, n, got)
			}
			if got := extent.Has(l, n); got != (s>>n&1 == 1) {
				t.Fatalf("Has(%v, %d) = %v", l, n, got)
			}
			if want := slices.Equal(l, runs(s)) && s&^below == 0; extent.May(l, n) != want {
				t.Fatalf("May(%v, %d) = %v", l, n, !want)
			}
		}
	})
	if seen < 8000 {
		t.Fatal(seen)
	}
}

// A list of many extents that all fall is put in order in a short time.
func TestManyExtents(t *testing.T) {
	const n = 1 << 17
	var l []complex128
	for i := range n {
		l = append(l, complex(float64(3*(n-1-i)), 2))
	}
	got := extent.Norm(l)
	slices.Reverse(l)
	if !slices.Equal(got, l) || len(extent.Holes(l, 3*n)) != n || !extent.May(got, 3*n) {
		t.Fatal(len(got))
	}
}

// Promise 2.3.

func TestHolesArePreserved(t *testing.T) {
	everyList(3, func(l []complex128) {
		const size = 8
		data, holes := extent.Norm(l), extent.Holes(l, size)
		// What is there is told by the holes, and the holes by what is there.
		if !slices.Equal(extent.Holes(holes, size), data) || !slices.Equal(extent.Holes(data, size), holes) {
			t.Fatalf("%v: %v and %v", l, data, holes)
		}
		if !extent.May(data, size) || !extent.May(holes, size) || len(extent.Meet(data, 0, size)) != len(data) {
			t.Fatalf("%v: %v and %v", l, data, holes)
		}
		for _, z := range holes {
			if extent.At(z)+extent.Long(z) > size || len(extent.Meet(l, extent.At(z), extent.Long(z))) > 0 {
				t.Fatalf("%v: something is there in the hole %v", l, z)
			}
		}
	})
	sparse := []complex128{complex(top-1, 1), 1i}
	if got := extent.Holes(sparse, top); !slices.Equal(got, []complex128{complex(1, top-2)}) {
		t.Fatal(got)
	}
}
