package meta_test

import (
	"fmt"
	"math"
	"reflect"
	"slices"
	"strconv"
	"strings"
	"testing"

	"steamer/acl"
	"steamer/api"
	"steamer/meta"
)

const (
	top     = math.MaxInt32 // the greatest Uid and Gid
	past    = 1 << 32       // what is lost where 32 bits are kept
	allBits = 4095          // the greatest Mode
)

var (
	name20   = strings.Repeat("n", api.MaxName)
	value200 = strings.Repeat("v", api.MaxText)
)

type (
	attrs = []api.Attr
	aces  = []api.Ace
)

func at(name string) api.Attr      { return api.Attr{Name: name} }
func with(name, v string) api.Attr { return api.Attr{Name: name, Value: v} }

// many returns n attributes in ascending order.
func many(n int) attrs {
	var l attrs
	for i := range n {
		l = append(l, with(fmt.Sprintf("n%06d", i), strings.Repeat("v", i%5)))
	}
	return l
}

// full returns valid metadata in which no field is zero.
func full() api.Meta {
	return api.Meta{
		Mode: 0o4750, Uid: 7, Gid: 8, Time: 1234567890123456789,
		Attrs: attrs{with("a", "1"), with("b", ""), with("c", "3")},
		Acl:   aces{{Kind: api.AUser, Id: 5, Perm: 6}, {Kind: api.AGroup, Id: 5, Perm: 3}, {Kind: api.AMask, Perm: 7}},
	}
}

// goodAttrs are valid lists of attributes.
func goodAttrs() []attrs {
	l := []attrs{
		nil, {}, {at("a")}, {with("a", value200)}, {with(name20, value200)}, {at("\x00")}, {with("/", "/")}, {at("."), at("..")},
		{with("a", "\x00\xff")}, {at("\xff")}, {with("\u00e9", "\u00e9")}, {at(strings.Repeat("\u00e9", 10))},
		{at("a"), at("aa"), at("b")}, {at("a"), at("a\x00")}, {at("B"), at("a")}, {at("a-b"), at("a/b")}, {at("z"), at("\u00e9"), at("\xff")},
		{at("1"), at("10"), at("2")}, {with("a", "2"), with("b", "1")}, {with("a", "1"), with("b", "1")},
		{at(name20[:19]), at(name20)},
	}
	for n := 1; n <= api.MaxAttrs; n++ {
		l = append(l, many(n))
	}
	return l
}

// wrong attributes, each broken at one point alone.
func wrong() attrs {
	return attrs{
		at(""), with("", "v"), at(name20 + "n"), with(name20+"n", "v"), at(strings.Repeat("\u00e9", 11)), at(strings.Repeat("n", 1<<20)),
		with("a", value200+"v"), with(name20, value200+"v"), with("a", strings.Repeat("\u00e9", 101)), with("a", strings.Repeat("v", 1<<20)),
	}
}

// goodMetas are valid metadata.
func goodMetas() []api.Meta {
	l := []api.Meta{{}, full(), {Attrs: attrs{}, Acl: aces{}}}
	for _, mode := range []int{1, 0o777, 0o7000, allBits - 1, allBits} {
		l = append(l, api.Meta{Mode: mode})
	}
	for _, id := range []int{1, 65536, top - 1, top} {
		l = append(l, api.Meta{Uid: id}, api.Meta{Gid: id})
	}
	for _, time := range []int64{1, past, math.MaxInt64} {
		l = append(l, api.Meta{Time: time})
	}
	for _, x := range goodAttrs() {
		l = append(l, api.Meta{Attrs: x})
	}
	for _, x := range []aces{{{Kind: api.AMask}}, {{Kind: api.AUser, Id: top, Perm: 7}, {Kind: api.AMask, Perm: 1}}, full().Acl, full().Acl[1:], manyAces(api.MaxAces)} {
		l = append(l, api.Meta{Acl: x})
	}
	return append(l, api.Meta{Mode: allBits, Uid: top, Gid: top, Time: math.MaxInt64, Attrs: many(api.MaxAttrs), Acl: manyAces(api.MaxAces)})
}

// badMetas are invalid metadata, each broken at one point alone.
func badMetas() []api.Meta {
	var l []api.Meta
	change := func(f func(m *api.Meta)) {
		for _, m := range []api.Meta{{}, full()} {
			f(&m)
			l = append(l, m)
		}
	}
	for _, mode := range []int{-1, allBits + 1, past, math.MinInt, math.MaxInt} {
		change(func(m *api.Meta) { m.Mode = mode })
	}
	for _, id := range []int{-1, top + 1, past, math.MinInt, math.MaxInt} {
		change(func(m *api.Meta) { m.Uid = id })
		change(func(m *api.Meta) { m.Gid = id })
	}
	for _, time := range []int64{-1, math.MinInt64} {
		change(func(m *api.Meta) { m.Time = time })
	}
	for _, x := range badAttrs() {
		change(func(m *api.Meta) { m.Attrs = x })
	}
	for _, x := range []aces{
		{{}}, {{Kind: api.AUser, Id: 1, Perm: 1}}, {{Kind: api.AMask, Perm: 8}}, {{Kind: api.AMask}, {Kind: api.AMask}}, {{Kind: api.AMask}, {Kind: api.AUser}},
		manyAces(api.MaxAces + 1),
	} {
		change(func(m *api.Meta) { m.Acl = x })
	}
	return l
}

// manyAces returns n entries in ascending order, the mask's last.
func manyAces(n int) aces {
	var l aces
	for i := range n - 1 {
		l = append(l, api.Ace{Kind: api.AUser, Id: i, Perm: i % 8})
	}
	return append(l, api.Ace{Kind: api.AMask, Perm: 5})
}

// badAttrs are invalid lists of attributes, each broken at one point alone.
func badAttrs() []attrs {
	l := []attrs{
		many(api.MaxAttrs + 1), many(api.MaxAttrs + 2), many(1000), // each of them and their order is right
		{at("b"), at("a")}, {at("aa"), at("a")}, {at("a"), at("B")}, {at("\xff"), at("\u00e9")}, {at("2"), at("10")}, {at("a"), at("c"), at("b")},
		{at("a/b"), at("a-b")}, {with("b", "1"), with("a", "2")}, {with("b", "2"), with("a", "1")},
		{at("a"), at("a")}, {with("a", "1"), with("a", "2")}, {with("a", "2"), with("a", "1")}, {with("a", "1"), at("b"), with("b", "1")},
		{at("a"), at("b"), at("a")},
	}
	for _, x := range wrong() {
		l = append(l, attrs{x})
		if x.Name > "\x01" {
			l = append(l, attrs{at("\x01"), x})
		}
		if x.Name < "\xff" {
			l = append(l, attrs{x, at("\xff")})
		}
	}
	return l
}

func TestExamplesAreAtTheLimits(t *testing.T) {
	if api.MaxAttrs != 8 || api.MaxName != 20 || api.MaxText != 200 {
		t.Fatal("the limits are not the document's")
	}
}

// Promise 4.1.

func TestMay(t *testing.T) {
	for _, m := range goodMetas() {
		if !meta.May(m) {
			t.Errorf("%.200v is valid", fmt.Sprintf("%+v", m))
		}
	}
	for i, m := range badMetas() {
		if meta.May(m) {
			t.Errorf("%d: %.200v is not valid", i, fmt.Sprintf("%+v", m))
		}
	}
}

func TestMayChangesNothing(t *testing.T) {
	for _, m := range append(goodMetas(), badMetas()...) {
		old := deep(m)
		meta.May(m)
		if !equal(m, old) {
			t.Fatalf("the argument %+v was changed to %+v", old, m)
		}
	}
}

func TestNorm(t *testing.T) {
	for i, x := range []struct{ l, want attrs }{
		{nil, nil}, {attrs{}, nil}, {attrs{at("a")}, attrs{at("a")}},
		{attrs{with("b", "1"), with("a", "2")}, attrs{with("a", "2"), with("b", "1")}}, // by Name, not by Value
		{attrs{at("ab"), at("b"), at("a")}, attrs{at("a"), at("ab"), at("b")}},
		{attrs{at("a"), at("B")}, attrs{at("B"), at("a")}},
		{attrs{at("\xff"), at("\u00e9"), at("z"), at("\x00")}, attrs{at("\x00"), at("z"), at("\u00e9"), at("\xff")}},
		{attrs{at("2"), at("10"), at("1")}, attrs{at("1"), at("10"), at("2")}},
		{attrs{at("a/b"), at("a-b"), at("a")}, attrs{at("a"), at("a-b"), at("a/b")}},
		{attrs{with("c", value200), with("b", ""), with("a", value200)}, attrs{with("a", value200), with("b", ""), with("c", value200)}},
		{attrs{with(name20, "x"), with(name20[:19], "x")}, attrs{with(name20[:19], "x"), with(name20, "x")}},
	} {
		if got, code := meta.Norm(x.l); code != api.OK || !slices.Equal(got, x.want) {
			t.Errorf("%d: Norm(%v) = %v, %d", i, x.l, got, code)
		}
	}
	for _, l := range goodAttrs() {
		back := slices.Clone(l)
		slices.Reverse(back)
		if got, code := meta.Norm(back); code != api.OK || !slices.Equal(got, l) {
			t.Errorf("Norm(%v) = %v, %d", back, got, code)
		}
	}
}

func TestNormErrors(t *testing.T) {
	bad, twice, above := at(""), attrs{with("x", "1"), with("x", "2")}, many(9)
	for i, x := range []struct {
		l    attrs
		want int
	}{
		{above, api.ErrLimit}, {many(10), api.ErrLimit}, {many(1000), api.ErrLimit},
		{twice, api.ErrExist}, {attrs{at("a"), at("a")}, api.ErrExist}, {attrs{with("x", "2"), with("x", "1")}, api.ErrExist},
		{attrs{at("x"), at("a"), at("x")}, api.ErrExist}, {attrs{at("b"), at("a"), at("c"), at("b")}, api.ErrExist}, // not side by side
		{append(many(7), many(1)...), api.ErrExist},                                                                                               // at the limit
		{append(many(8), many(1)...), api.ErrExist}, {append(twice, above...), api.ErrExist}, {append(many(1000), many(1000)[999]), api.ErrExist}, // ahead of the limit
		{attrs{bad}, api.ErrArg}, {attrs{bad, bad}, api.ErrArg}, {append(attrs{bad}, twice...), api.ErrArg}, {append(slices.Clone(twice), bad), api.ErrArg}, // ahead of both
		{append(attrs{bad}, above...), api.ErrArg}, {append(slices.Clone(above), bad), api.ErrArg}, {append(append(slices.Clone(above), twice...), bad), api.ErrArg},
	} {
		if got, code := meta.Norm(x.l); code != x.want || len(got) != 0 {
			t.Errorf("%d: Norm(%.200v) = %v, %d", i, fmt.Sprint(x.l), got, code)
		}
	}
	for _, e := range wrong() {
		for _, l := range []attrs{{e}, {e, at("a")}, {at("a"), e}, {at("b"), e, at("a")}, {at("a"), at("a"), e}, append(many(8), e)} {
			if got, code := meta.Norm(l); code != api.ErrArg || len(got) != 0 {
				t.Errorf("Norm(%.200v) = %v, %d", fmt.Sprint(l), got, code)
			}
		}
	}
}

func TestNormAnswersNewMemory(t *testing.T) {
	for _, l := range append(goodAttrs(), badAttrs()...) {
		slices.Reverse(l)
		old := slices.Clone(l)
		got, _ := meta.Norm(l)
		if !slices.Equal(l, old) {
			t.Fatalf("the argument %v was changed to %v", old, l)
		}
		for i := range got {
			got[i] = at("other")
		}
		if got = append(got, at("more")); !slices.Equal(l, old) {
			t.Fatal("the result shares memory with the argument")
		}
	}
	behind := many(3) // with elements behind the argument
	for n := range 3 {
		old := slices.Clone(behind)
		got, _ := meta.Norm(behind[:n])
		if got = append(got, at("more")); !slices.Equal(behind, old) {
			t.Fatal("the result shares memory with the argument")
		}
	}
}

// everyList calls f with every list of at most n of these attributes, in every order.
func everyList(n int, from attrs, f func(l attrs)) {
	var grow func(l attrs)
	grow = func(l attrs) {
		f(slices.Clone(l))
		for i := 0; len(l) < n && i < len(from); i++ {
			grow(append(slices.Clone(l), from[i]))
		}
	}
	grow(nil)
}

// few attributes in order of their names, among them wrong ones, which stand last.
func few() attrs {
	return attrs{with("A", "2"), with("a", "1"), with("a", "2"), at("aa"), at("b"), at("\xff"), at(""), at(name20 + "n"), with("a", value200+"v")}
}

// fault returns the error of a list, from how often each name is in it.
func fault(l attrs) int {
	seen := map[string]int{}
	for _, a := range l {
		if slices.Contains(few()[6:], a) {
			return api.ErrArg
		}
		seen[a.Name]++
	}
	if len(seen) < len(l) {
		return api.ErrExist
	}
	return api.OK
}

func TestMayAndNormOfAllSmallLists(t *testing.T) {
	right := 0
	everyList(5, few(), func(l attrs) {
		code := fault(l)
		var want attrs
		for _, a := range few() {
			if code == api.OK && slices.Contains(l, a) {
				want = append(want, a)
			}
		}
		if may := code == api.OK && slices.Equal(l, want); meta.May(api.Meta{Attrs: l}) != may {
			t.Fatalf("May of %v = %v", l, !may)
		}
		if got, c := meta.Norm(l); c != code || !slices.Equal(got, want) {
			t.Fatalf("Norm(%v) = %v, %d", l, got, c)
		}
		if code == api.OK {
			right++
		}
	})
	if right < 500 {
		t.Fatal(right)
	}
}

// Many attributes are put in order, found to be too many and compared in a short time.
func TestManyAttributes(t *testing.T) {
	l := many(1 << 18)
	slices.Reverse(l)
	if got, code := meta.Norm(l); code != api.ErrLimit || len(got) != 0 || meta.May(api.Meta{Attrs: l}) {
		t.Fatal(code)
	}
	if got, code := meta.Norm(append(l, l[0])); code != api.ErrExist || len(got) != 0 {
		t.Fatal(code)
	}
	m := api.Meta{Attrs: l}
	if c := meta.Copy(m); !meta.Same(m, c) || meta.Diff(m, c) != "" || len(c.Attrs) != len(l) {
		t.Fatal("a long list is not the same as its copy")
	}
}

// Promise 4.2.

// deep returns a copy of m, apart from the code.
func deep(m api.Meta) api.Meta {
	m.Attrs, m.Acl = slices.Clone(m.Attrs), slices.Clone(m.Acl)
	return m
}

// equal reports whether all fields are equal, apart from the code: no entries are no entries, nil or not.
func equal(a, b api.Meta) bool {
	bare := func(m api.Meta) api.Meta {
		m.Attrs, m.Acl = append(attrs{}, m.Attrs...), append(aces{}, m.Acl...)
		return m
	}
	return reflect.DeepEqual(bare(a), bare(b))
}

// different metadata, no two the same, valid and not.
func different() []api.Meta {
	l := []api.Meta{{}, full()}
	for _, f := range []func(m *api.Meta){
		func(m *api.Meta) { m.Mode = 1 },
		func(m *api.Meta) { m.Mode = 1 + past },
		func(m *api.Meta) { m.Mode = math.MinInt },
		func(m *api.Meta) { m.Uid = 1 },
		func(m *api.Meta) { m.Uid = 1 + past },
		func(m *api.Meta) { m.Uid = -1 },
		func(m *api.Meta) { m.Gid = 1 },
		func(m *api.Meta) { m.Gid = 1 + past },
		func(m *api.Meta) { m.Gid = -1 },
		func(m *api.Meta) { m.Time = 1 },
		func(m *api.Meta) { m.Time = 1 + past },
		func(m *api.Meta) { m.Time = math.MinInt64 },
		func(m *api.Meta) { m.Attrs = attrs{{}} },
		func(m *api.Meta) { m.Attrs = attrs{{}, {}} },
		func(m *api.Meta) { m.Attrs = attrs{at("a")} },
		func(m *api.Meta) { m.Attrs = attrs{with("a", "1")} },
		func(m *api.Meta) { m.Attrs = attrs{with("", "a")} },
		func(m *api.Meta) { m.Attrs = attrs{with("a", "1"), at("b")} },
		func(m *api.Meta) { m.Attrs = attrs{with("a", "1"), at("b"), with("c", "4")} },
		func(m *api.Meta) { m.Attrs = attrs{with("a", "1"), at("b"), with("d", "3")} },
		func(m *api.Meta) { m.Attrs = attrs{with("a", "2"), at("b"), with("c", "3")} },
		func(m *api.Meta) { m.Attrs = attrs{at("b"), with("a", "1"), with("c", "3")} },
		func(m *api.Meta) { m.Attrs = attrs{at("b"), with("c", "3")} },
		func(m *api.Meta) { m.Attrs = append(full().Attrs, at("d")) },
		func(m *api.Meta) { m.Attrs = many(20) },
		func(m *api.Meta) { m.Acl = aces{{}} },
		func(m *api.Meta) { m.Acl = aces{{}, {}} },
		func(m *api.Meta) { m.Acl = aces{{Kind: api.AMask}} },
		func(m *api.Meta) { m.Acl = aces{{Kind: api.AMask, Perm: 7}} },
		func(m *api.Meta) { m.Acl = aces{{Kind: api.AMask, Id: 7}} },
		func(m *api.Meta) { m.Acl = full().Acl[:2] },
		func(m *api.Meta) { m.Acl = full().Acl[1:] },
		func(m *api.Meta) { m.Acl = aces{full().Acl[1], full().Acl[0], full().Acl[2]} },
		func(m *api.Meta) { m.Acl = append(full().Acl, api.Ace{Kind: api.AMask, Perm: 7}) },
		func(m *api.Meta) { m.Acl = make(aces, 20) },
	} {
		for _, m := range []api.Meta{{}, full()} {
			f(&m)
			l = append(l, m)
		}
	}
	return l
}

func TestSame(t *testing.T) {
	l := different()
	for i, x := range l {
		for j, y := range l {
			if oldX, oldY := deep(x), deep(y); meta.Same(x, deep(y)) != (i == j) || !equal(x, oldX) || !equal(y, oldY) {
				t.Errorf("Same(%+v, %+v) = %v", x, y, i != j)
			}
			if diff := meta.Diff(x, deep(y)); diff != wantDiff(x, y) || (diff == "") != (i == j) || diff != meta.Diff(y, x) {
				t.Errorf("Diff(%+v, %+v) = %q", x, y, diff)
			}
		}
	}
	none, empty := api.Meta{}, api.Meta{Attrs: attrs{}, Acl: aces{}}
	if !meta.Same(none, empty) || !meta.Same(empty, none) || meta.Diff(none, empty) != "" || meta.Diff(empty, none) != "" {
		t.Error("no entries are the same as no entries")
	}
}

// wantDiff says in the document's words what Diff answers, apart from the code.
func wantDiff(a, b api.Meta) string {
	for _, x := range []struct {
		name string
		same bool
	}{
		{"mode", a.Mode == b.Mode}, {"uid", a.Uid == b.Uid}, {"gid", a.Gid == b.Gid}, {"time", a.Time == b.Time},
		{"attrs", slices.Equal(a.Attrs, b.Attrs)}, {"acl", slices.Equal(a.Acl, b.Acl)},
	} {
		if !x.same {
			return x.name
		}
	}
	return ""
}

func TestDiffTellsTheFirst(t *testing.T) {
	names := []string{"mode", "uid", "gid", "time", "attrs", "acl"}
	change := []func(m *api.Meta){
		func(m *api.Meta) { m.Mode++ }, func(m *api.Meta) { m.Uid++ }, func(m *api.Meta) { m.Gid++ }, func(m *api.Meta) { m.Time++ },
		func(m *api.Meta) { m.Attrs[2].Value = "4" }, func(m *api.Meta) { m.Acl[0].Perm = 0 },
	}
	for set := range 1 << len(names) {
		a, b, want := full(), full(), ""
		for i, f := range change {
			if set>>i&1 == 1 {
				f(&b)
				if want == "" {
					want = names[i]
				}
			}
		}
		if got := meta.Diff(a, b); got != want || meta.Diff(b, a) != want {
			t.Errorf("%06b: Diff = %q, %q", set, got, want)
		}
		if meta.Same(a, b) != (want == "") || meta.Same(b, a) != (want == "") {
			t.Errorf("%06b: Same = %v", set, want != "")
		}
		if meta.Diff(b, b) != "" {
			t.Errorf("%06b: metadata differs from itself", set)
		}
	}
}

func TestCopy(t *testing.T) {
	for _, m := range slices.Concat(goodMetas(), badMetas(), different()) {
		old := deep(m)
		c := meta.Copy(m)
		if !equal(c, old) || !equal(m, old) {
			t.Fatalf("Copy(%+v) = %+v", old, c)
		}
		spoil(&c)
		if !equal(m, old) {
			t.Fatalf("what is done to the copy of %+v is done to it", old)
		}
		c = meta.Copy(m)
		spoil(&m)
		if !equal(c, old) {
			t.Fatalf("what is done to %+v is done to its copy", old)
		}
	}
}

// spoil changes all that m reaches, be it behind the ends of its lists.
func spoil(m *api.Meta) {
	m.Mode, m.Uid, m.Gid, m.Time = m.Mode+1, m.Uid+1, m.Gid+1, m.Time+1
	l, x := m.Attrs[:cap(m.Attrs)], m.Acl[:cap(m.Acl)]
	for i := range l {
		l[i] = with("spoilt", "spoilt")
	}
	for i := range x {
		x[i] = api.Ace{Kind: 99, Id: 99, Perm: 99}
	}
}

func TestCopyOfAPartOfLists(t *testing.T) {
	m := full()
	for n := range 3 {
		part := m
		part.Attrs, part.Acl = m.Attrs[:n], m.Acl[:n]
		c := meta.Copy(part)
		if !equal(c, part) {
			t.Fatalf("Copy(%+v) = %+v", part, c)
		}
		spoil(&c)
		c.Attrs, c.Acl = append(c.Attrs, at("more")), append(c.Acl, api.Ace{})
		if !equal(m, full()) {
			t.Fatal("the copy shares what lies behind the lists")
		}
	}
}

// Promise 4.3, and T1 as far as it is this layer's.

// put writes all of m as text, and get reads it back: what an archive does with it.
func put(m api.Meta) []string {
	l := []string{strconv.Itoa(m.Mode), strconv.Itoa(m.Uid), strconv.Itoa(m.Gid), strconv.FormatInt(m.Time, 10), strconv.Itoa(len(m.Attrs))}
	for _, a := range m.Attrs {
		l = append(l, a.Name, a.Value)
	}
	for _, e := range m.Acl {
		l = append(l, strconv.Itoa(e.Kind), strconv.Itoa(e.Id), strconv.Itoa(e.Perm))
	}
	return l
}

func get(l []string) api.Meta {
	number := func() int {
		n, err := strconv.Atoi(l[0])
		if err != nil {
			panic(err)
		}
		l = l[1:]
		return n
	}
	m := api.Meta{Mode: number(), Uid: number(), Gid: number(), Time: int64(number())}
	for range number() {
		m.Attrs = append(m.Attrs, with(l[0], l[1]))
		l = l[2:]
	}
	for len(l) > 0 {
		m.Acl = append(m.Acl, api.Ace{Kind: number(), Id: number(), Perm: number()})
	}
	return m
}

func TestNoMetadataIsLost(t *testing.T) {
	for _, m := range goodMetas() {
		back := get(put(meta.Copy(m)))
		if !equal(back, m) || !meta.Same(back, m) || meta.Diff(back, m) != "" || !meta.May(back) {
			t.Fatalf("%+v became %+v", m, back)
		}
		// However the attributes come to stand, the list that is set is the one that was saved.
		for turn := range len(m.Attrs) + 1 {
			moved := append(slices.Clone(m.Attrs[turn:]), m.Attrs[:turn]...)
			l, code := meta.Norm(moved)
			if back.Attrs = l; code != api.OK || !meta.Same(back, m) || !meta.May(back) {
				t.Fatalf("Norm(%v) = %v, %d", moved, l, code)
			}
		}
		for turn := range len(m.Acl) + 1 {
			l, code := acl.Norm(append(slices.Clone(m.Acl[turn:]), m.Acl[:turn]...))
			if back.Acl = l; code != api.OK || !meta.Same(back, m) || !meta.May(back) {
				t.Fatalf("the ACL of %+v became %v, %d", m, l, code)
			}
		}
	}
}

// Whatever is lost of metadata is told: each field, and each part of each entry.
func TestEveryLossIsTold(t *testing.T) {
	m := full()
	told := func(want string, f func(lost *api.Meta)) {
		lost := meta.Copy(m)
		f(&lost)
		if got := meta.Diff(m, lost); got != want || meta.Diff(lost, m) != want || meta.Same(m, lost) {
			t.Errorf("the loss of %s is told as %q: %+v", want, got, lost)
		}
	}
	told("mode", func(lost *api.Meta) { lost.Mode = 0 })
	told("mode", func(lost *api.Meta) { lost.Mode &= 0o777 })
	told("uid", func(lost *api.Meta) { lost.Uid = 0 })
	told("gid", func(lost *api.Meta) { lost.Gid = 0 })
	told("time", func(lost *api.Meta) { lost.Time = 0 })
	told("time", func(lost *api.Meta) { lost.Time -= lost.Time % 1000 })
	told("attrs", func(lost *api.Meta) { lost.Attrs = nil })
	told("acl", func(lost *api.Meta) { lost.Acl = nil })
	for i := range m.Attrs {
		told("attrs", func(lost *api.Meta) { lost.Attrs = slices.Delete(lost.Attrs, i, i+1) })
		told("attrs", func(lost *api.Meta) { lost.Attrs[i].Name = "" })
		if m.Attrs[i].Value != "" {
			told("attrs", func(lost *api.Meta) { lost.Attrs[i].Value = "" })
		}
	}
	for i, e := range m.Acl {
		told("acl", func(lost *api.Meta) { lost.Acl = slices.Delete(lost.Acl, i, i+1) })
		told("acl", func(lost *api.Meta) { lost.Acl[i].Kind = 0 })
		told("acl", func(lost *api.Meta) { lost.Acl[i].Perm = 0 })
		if e.Id != 0 {
			told("acl", func(lost *api.Meta) { lost.Acl[i].Id = 0 })
		}
	}
}
