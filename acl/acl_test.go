package acl_test

import (
	"fmt"
	"math"
	"slices"
	"strings"
	"testing"

	"steamer/acl"
	"steamer/api"
)

const top = math.MaxInt32 // the greatest Id

func user(id, perm int) api.Ace  { return api.Ace{Kind: api.AUser, Id: id, Perm: perm} }
func group(id, perm int) api.Ace { return api.Ace{Kind: api.AGroup, Id: id, Perm: perm} }
func mask(perm int) api.Ace      { return api.Ace{Kind: api.AMask, Perm: perm} }

type aces = []api.Ace

// many returns a valid ACL of n entries.
func many(n int) aces {
	var l aces
	for i := range n - 1 {
		l = append(l, api.Ace{Kind: 1 + i*2/n, Id: i * 3, Perm: i % 8})
	}
	return append(l, mask(5))
}

// valid ACLs.
func valid() []aces {
	l := []aces{
		nil, {}, {mask(0)}, {mask(7)},
		{user(0, 0), mask(0)}, {user(top, 7), mask(7)}, {group(0, 0), mask(3)}, {group(top, 7), mask(3)},
		{user(1, 7), user(2, 7), mask(7)}, {group(1, 7), group(2, 7), mask(7)},
		{user(0, 1), user(top, 2), group(0, 3), group(top, 4), mask(5)},
		{user(5, 1), group(5, 1), mask(1)}, {user(9, 0), group(1, 7), mask(1)},
	}
	for n := 1; n <= api.MaxAces; n++ {
		l = append(l, many(n))
	}
	return l
}

// wrong entries, each broken at one point alone.
var wrong = aces{
	{Kind: 0, Id: 1, Perm: 1}, {Kind: 4, Id: 1, Perm: 1}, {Kind: -1, Id: 1, Perm: 1}, {Kind: 0}, {Kind: 4},
	{Kind: math.MinInt}, {Kind: math.MaxInt}, {Kind: 1 + 256}, {Kind: 1 + 1<<32},
	user(1, -1), user(1, 8), user(1, math.MinInt), user(1, math.MaxInt),
	group(1, -1), group(1, 8), group(1, 1<<32), mask(-1), mask(8), mask(1 << 32),
	user(-1, 1), user(top+1, 1), user(math.MinInt, 1), user(math.MaxInt, 1), user(1<<32, 1),
	group(-1, 1), group(top+1, 1), group(math.MinInt, 1), group(math.MaxInt, 1),
	{Kind: api.AMask, Id: 1, Perm: 1}, {Kind: api.AMask, Id: -1, Perm: 1}, {Kind: api.AMask, Id: top, Perm: 1}, {Kind: api.AMask, Id: 1 << 32, Perm: 1},
}

// Promise 3.1.

func TestMay(t *testing.T) {
	for _, l := range valid() {
		if !acl.May(l) {
			t.Errorf("%v is valid", l)
		}
	}
	for i, l := range []aces{
		many(api.MaxAces + 1), many(api.MaxAces + 2), many(1000), // each entry and their order is right
		{user(1, 1)}, {group(1, 1)}, {user(1, 1), group(1, 1)}, many(16)[:15], // no mask
		{user(2, 1), user(1, 1), mask(1)}, {group(2, 1), group(1, 1), mask(1)}, // Ids fall
		{group(1, 1), user(2, 1), mask(1)}, {mask(1), user(1, 1)}, {mask(1), group(1, 1)}, // Kinds fall
		{user(1, 1), mask(1), group(1, 1)}, {user(1, 1), mask(1), user(2, 1)},
		{user(1, 1), user(1, 1), mask(1)}, {user(1, 1), user(1, 2), mask(1)}, {user(1, 2), user(1, 1), mask(1)}, // twice
		{group(3, 1), group(3, 5), mask(1)}, {mask(1), mask(1)}, {mask(1), mask(2)}, {mask(2), mask(1)},
		{user(3, 1), user(4, 1), user(5, 1), user(4, 1), mask(1)}, {user(1, 1), user(3, 1), user(3, 1), mask(1)},
	} {
		if acl.May(l) {
			t.Errorf("%d: %v is not valid", i, l)
		}
	}
	for _, e := range wrong {
		for _, l := range []aces{{e}, {e, mask(1)}, {user(0, 1), e, mask(1)}, {user(0, 1), group(0, 1), e}, {user(0, 1), group(0, 1), e, mask(1)}} {
			if acl.May(l) {
				t.Errorf("%v is not valid", l)
			}
		}
	}
}

func TestNorm(t *testing.T) {
	for i, x := range []struct{ l, want aces }{
		{nil, nil}, {aces{}, nil}, {aces{mask(3)}, aces{mask(3)}},
		{aces{mask(3), user(1, 2)}, aces{user(1, 2), mask(3)}},
		{aces{user(2, 7), user(1, 0), mask(1)}, aces{user(1, 0), user(2, 7), mask(1)}}, // by Id, not by Perm
		{aces{group(1, 5), user(9, 6), mask(0)}, aces{user(9, 6), group(1, 5), mask(0)}},
		{aces{mask(7), group(top, 1), group(0, 2), user(top, 3), user(0, 4)}, aces{user(0, 4), user(top, 3), group(0, 2), group(top, 1), mask(7)}},
		{aces{group(4, 1), user(4, 2), mask(3)}, aces{user(4, 2), group(4, 1), mask(3)}}, // the same Id, another Kind
	} {
		if got, code := acl.Norm(x.l); code != api.OK || !slices.Equal(got, x.want) {
			t.Errorf("%d: Norm(%v) = %v, %d", i, x.l, got, code)
		}
	}
	for _, l := range valid() {
		back := slices.Clone(l)
		slices.Reverse(back)
		if got, code := acl.Norm(back); code != api.OK || !slices.Equal(got, l) {
			t.Errorf("Norm(%v) = %v, %d", back, got, code)
		}
	}
}

func TestNormErrors(t *testing.T) {
	bad, twice, above := user(1, 8), aces{user(3, 1), user(3, 2)}, many(17)
	for i, x := range []struct {
		l    aces
		want int
	}{
		{aces{user(1, 1)}, api.ErrNone}, {aces{group(1, 1), user(1, 1)}, api.ErrNone}, {many(16)[:15], api.ErrNone},
		{above, api.ErrLimit}, {many(1000), api.ErrLimit}, {many(18)[:17], api.ErrLimit}, // ahead of no mask
		{aces{user(1, 1), user(1, 1), mask(1)}, api.ErrExist}, {append(twice, mask(1)), api.ErrExist},
		{aces{user(3, 1), group(3, 1), mask(1), user(3, 2)}, api.ErrExist}, // not side by side
		{aces{group(3, 1), group(3, 7), mask(1)}, api.ErrExist},
		{aces{mask(1), mask(1)}, api.ErrExist}, {aces{mask(1), user(1, 1), mask(2)}, api.ErrExist},
		{twice, api.ErrExist}, {append(slices.Clone(above), mask(1)), api.ErrExist}, {append(many(18)[:17], user(0, 0)), api.ErrExist}, // ahead of both
		{append(many(16)[:15], user(0, 0), user(0, 0)), api.ErrExist},
		{aces{bad}, api.ErrArg}, {aces{mask(1), bad}, api.ErrArg},
		{aces{bad, bad}, api.ErrArg}, {append(slices.Clone(twice), bad), api.ErrArg}, {append(slices.Clone(above), bad), api.ErrArg}, // ahead of all
		{append(aces{bad}, above...), api.ErrArg}, {append(aces{bad}, twice...), api.ErrArg},
	} {
		if got, code := acl.Norm(x.l); code != x.want || len(got) != 0 {
			t.Errorf("%d: Norm(%v) = %v, %d", i, x.l, got, code)
		}
	}
	for _, e := range wrong {
		for _, l := range []aces{{e}, {e, mask(1)}, {mask(1), e}, {user(0, 1), e, group(0, 1), mask(1)}, {user(0, 1), user(0, 1), e}} {
			if got, code := acl.Norm(l); code != api.ErrArg || len(got) != 0 {
				t.Errorf("Norm(%v) = %v, %d", l, got, code)
			}
		}
	}
}

func TestNormAnswersNewMemory(t *testing.T) {
	for _, l := range valid() {
		slices.Reverse(l)
		old := slices.Clone(l)
		got, _ := acl.Norm(l)
		if !slices.Equal(l, old) {
			t.Fatalf("the argument %v was changed to %v", old, l)
		}
		for i := range got {
			got[i] = user(77, 0)
		}
		if got = append(got, user(78, 0)); !slices.Equal(l, old) {
			t.Fatal("the result shares memory with the argument")
		}
	}
	behind := aces{user(1, 1), mask(1), mask(2)} // with elements behind the argument
	for n := range 3 {
		old := slices.Clone(behind)
		got, _ := acl.Norm(behind[:n])
		if got = append(got, user(77, 0)); !slices.Equal(behind, old) {
			t.Fatal("the result shares memory with the argument")
		}
	}
}

// everyList calls f with every list of at most n of these entries, in every order.
func everyList(n int, from aces, f func(l aces)) {
	var grow func(l aces)
	grow = func(l aces) {
		f(slices.Clone(l))
		for i := 0; len(l) < n && i < len(from); i++ {
			grow(append(slices.Clone(l), from[i]))
		}
	}
	grow(nil)
}

// few entries, among them wrong ones.
var few = aces{user(1, 1), user(1, 6), user(2, 4), group(1, 1), group(0, 7), mask(3), mask(6), user(-1, 1), {Kind: 4, Id: 1, Perm: 1}, user(3, 8)}

// fault returns the error of a list, from the sets of what it has.
func fault(l aces) int {
	type key struct{ kind, id int }
	seen := map[key]int{}
	for _, e := range l {
		if slices.Contains(few[7:], e) {
			return api.ErrArg
		}
		seen[key{e.Kind, e.Id}]++
	}
	for _, n := range seen {
		if n > 1 {
			return api.ErrExist
		}
	}
	if len(l) > 0 && seen[key{api.AMask, 0}] == 0 {
		return api.ErrNone
	}
	return api.OK
}

// place returns a number by which entries stand in order.
func place(e api.Ace) int { return e.Kind*100 + e.Id }

func TestMayAndNormOfAllSmallLists(t *testing.T) {
	right := 0
	everyList(5, few, func(l aces) {
		code := fault(l)
		want := slices.Clone(l)
		slices.SortFunc(want, func(a, b api.Ace) int { return place(a) - place(b) })
		if may := code == api.OK && slices.Equal(l, want); acl.May(l) != may {
			t.Fatalf("May(%v) = %v", l, !may)
		}
		if code != api.OK {
			want = nil
		} else {
			right++
		}
		if got, c := acl.Norm(l); c != code || !slices.Equal(got, want) {
			t.Fatalf("Norm(%v) = %v, %d", l, got, c)
		}
	})
	if right < 500 {
		t.Fatal(right)
	}
}

// A list of many entries is put in order, and found to be too long, in a short time.
func TestManyEntries(t *testing.T) {
	const n = 1 << 18
	var l aces
	for i := range n {
		l = append(l, user(n-i, 0))
	}
	if _, code := acl.Norm(l); code != api.ErrLimit || acl.May(l) {
		t.Fatal(code)
	}
	if _, code := acl.Norm(append(l, l[0])); code != api.ErrExist {
		t.Fatal(code)
	}
	if text := acl.Show(l); strings.Count(text, " ") != n-1 || !strings.HasSuffix(text, " u2:0 u1:0") {
		t.Fatal(len(text))
	}
	if other := slices.Clone(l); !acl.Same(l, other) {
		t.Fatal("a long list is not the same as itself")
	}
}

// Promise 3.2.

func TestLets(t *testing.T) {
	five := aces{user(5, 7), mask(7)}
	for i, x := range []struct {
		l                   aces
		mode, uid, gid, who int
		groups              []int
		ask                 int
		want                bool
	}{
		// An invalid list or ask goes ahead of everything, user 0 included.
		{aces{user(5, 7)}, 0o777, 5, 5, 0, nil, 1, false}, {aces{mask(7), mask(7)}, 0o777, 5, 5, 0, nil, 0, false},
		{many(17), 0o777, 0, 0, 0, nil, 0, false}, {aces{user(5, 8), mask(7)}, 0o777, 5, 5, 5, []int{5}, 1, false},
		{nil, 0o777, 5, 5, 0, nil, -1, false}, {nil, 0o777, 5, 5, 0, nil, 8, false}, {nil, -1, 5, 5, 5, []int{5}, 8, false},
		{nil, -1, 5, 5, 5, nil, math.MinInt, false}, {nil, -1, 5, 5, 5, nil, math.MaxInt, false}, {nil, -1, 5, 5, 6, nil, 1 << 32, false},
		// User 0 may do all.
		{nil, 0, 5, 5, 0, nil, 7, true}, {nil, 0, 0, 0, 0, []int{0}, 7, true}, {aces{user(0, 0), mask(0)}, 0, 5, 5, 0, nil, 7, true},
		// The owner: bits 6 to 8 of the mode alone, without the mask.
		{nil, 0o700, 5, 5, 5, nil, 7, true}, {nil, 0o077, 5, 5, 5, []int{5}, 1, false}, {nil, 0o500, 5, 5, 5, nil, 5, true}, {nil, 0o500, 5, 5, 5, nil, 7, false},
		{nil, 0o7000, 5, 5, 5, []int{5}, 1, false}, {nil, 0o1277, 5, 5, 5, nil, 2, true}, {nil, 0o1277, 5, 5, 5, nil, 3, false},
		{five, 0o077, 5, 5, 5, nil, 1, false}, {aces{user(5, 0), mask(0)}, 0o700, 5, 5, 5, nil, 7, true},
		// A user's entry, masked, ahead of all groups and of the others.
		{five, 0, 9, 9, 5, nil, 7, true}, {aces{user(5, 7), mask(3)}, 0o777, 9, 9, 5, nil, 3, true}, {aces{user(5, 7), mask(3)}, 0o777, 9, 9, 5, nil, 4, false},
		{aces{user(5, 3), mask(7)}, 0o777, 9, 9, 5, []int{9}, 4, false}, {aces{user(5, 0), group(9, 7), mask(7)}, 0o777, 9, 9, 5, []int{9}, 1, false},
		{aces{user(4, 7), user(5, 2), user(6, 7), mask(7)}, 0, 9, 9, 5, nil, 2, true}, {aces{user(4, 7), user(5, 2), user(6, 7), mask(7)}, 0, 9, 9, 5, nil, 1, false},
		{aces{user(top, 4), mask(4)}, 0, 9, 9, top, nil, 4, true},
		{aces{group(5, 7), mask(7)}, 0, 9, 9, 5, nil, 1, false}, // a group's entry is not the user's
		{aces{user(0, 7), mask(7)}, 0, 9, 9, 5, []int{0}, 1, false},
		// The groups: bits 3 to 5 of the mode, masked if there is a mask.
		{nil, 0o070, 9, 8, 5, []int{8}, 7, true}, {nil, 0o707, 9, 8, 5, []int{8}, 1, false}, {nil, 0o070, 9, 8, 5, []int{7}, 1, false},
		{nil, 0o050, 9, 8, 5, []int{1, 8, 2}, 5, true}, {nil, 0o050, 9, 8, 5, []int{1, 8, 2}, 7, false},
		{aces{mask(5)}, 0o070, 9, 8, 5, []int{8}, 5, true}, {aces{mask(5)}, 0o070, 9, 8, 5, []int{8}, 2, false}, {aces{mask(0)}, 0o070, 9, 8, 5, []int{8}, 1, false},
		{aces{user(4, 7), mask(5)}, 0o070, 9, 8, 5, []int{8}, 7, false},
		// The entries of groups, masked.
		{aces{group(3, 7), mask(7)}, 0, 9, 8, 5, []int{3}, 7, true}, {aces{group(3, 7), mask(6)}, 0o777, 9, 8, 5, []int{3}, 1, false}, {aces{group(3, 5), mask(7)}, 0o777, 9, 8, 5, []int{3}, 2, false},
		{aces{group(2, 0), group(3, 6), mask(7)}, 0, 9, 8, 5, []int{2, 3}, 6, true}, {aces{group(2, 6), group(3, 0), mask(7)}, 0, 9, 8, 5, []int{3, 2}, 6, true},
		{aces{group(top, 1), mask(1)}, 0, 9, 8, 5, []int{top}, 1, true},
		// Any of them, be it the mode's.
		{aces{group(3, 0), mask(7)}, 0o070, 9, 8, 5, []int{3, 8}, 7, true}, {aces{group(3, 7), mask(7)}, 0, 9, 8, 5, []int{3, 8}, 7, true}, {aces{group(8, 4), mask(7)}, 0o030, 9, 8, 5, []int{8}, 3, true},
		// But one has to have all of what is asked.
		{aces{group(2, 4), group(3, 3), mask(7)}, 0, 9, 8, 5, []int{2, 3}, 7, false}, {aces{group(3, 4), mask(7)}, 0o030, 9, 8, 5, []int{3, 8}, 7, false},
		// With a group's entry, the others' bits do not count.
		{nil, 0o007, 9, 8, 5, []int{8}, 1, false}, {aces{group(3, 0), mask(7)}, 0o007, 9, 8, 5, []int{3}, 1, false}, {aces{mask(0)}, 0o077, 9, 8, 5, []int{8}, 7, false},
		// Nothing of it: the others, not masked.
		{nil, 0o007, 9, 8, 5, nil, 7, true}, {nil, 0o770, 9, 8, 5, []int{9, 5}, 1, false}, {nil, 0o772, 9, 8, 5, nil, 2, true}, {nil, 0o772, 9, 8, 5, nil, 3, false},
		{aces{mask(0)}, 0o007, 9, 8, 5, []int{}, 7, true}, {aces{group(3, 7), mask(0)}, 0o005, 9, 8, 5, []int{4}, 5, true}, {aces{group(3, 7), mask(7)}, 0o070, 9, 8, 5, []int{4}, 1, false},
		{aces{user(4, 7), mask(7)}, 0o006, 9, 8, 5, []int{4}, 6, true},
		// Nothing is asked: whichever rule decides, it is there.
		{nil, 0, 9, 8, 5, nil, 0, true}, {nil, 0, 5, 8, 5, nil, 0, true}, {nil, 0, 9, 8, 5, []int{8}, 0, true}, {aces{user(5, 0), mask(0)}, 0, 9, 8, 5, nil, 0, true}, {aces{group(3, 0), mask(0)}, 0, 9, 8, 5, []int{3}, 0, true},
		// Any numbers.
		{nil, 0o700, -5, 8, -5, nil, 7, true}, {nil, 0o007, 5, 8, -5, nil, 7, true}, {nil, 0o070, 5, -8, -5, []int{-8}, 7, true}, {nil, 0o070, 5, math.MinInt, math.MaxInt, []int{math.MinInt}, 7, true},
		{nil, -1, 5, 8, 5, nil, 7, true}, {nil, -1, 5, 8, 6, []int{8}, 7, true}, {nil, -1, 5, 8, 6, nil, 7, true}, {nil, ^0o700, 5, 8, 5, nil, 1, false}, {nil, math.MinInt, 5, 8, 6, nil, 1, false}, {nil, math.MaxInt, 5, 8, 6, []int{8}, 7, true},
		{aces{user(5, 7), mask(7)}, 0, 9, 8, 5 - 1<<32, nil, 1, false}, {aces{group(5, 7), mask(7)}, 0, 9, 8, 6, []int{5 + 1<<32, -5}, 1, false},
	} {
		oldL, oldGroups := slices.Clone(x.l), slices.Clone(x.groups)
		if acl.Lets(x.l, x.mode, x.uid, x.gid, x.who, x.groups, x.ask) != x.want {
			t.Errorf("%d: Lets(%v, %#o, %d, %d, %d, %v, %d) = %v", i, x.l, x.mode, x.uid, x.gid, x.who, x.groups, x.ask, !x.want)
		}
		if !slices.Equal(x.l, oldL) || !slices.Equal(x.groups, oldGroups) {
			t.Errorf("%d: an argument was changed", i)
		}
	}
}

// lets is what Lets promises, permission sets told as the bits' names.
func lets(l aces, mode, uid, gid, who int, groups []int, ask int) bool {
	names := func(perm int) string {
		return strings.Repeat("r", perm/4) + strings.Repeat("w", perm/2%2) + strings.Repeat("x", perm%2)
	}
	within := func(perms ...int) bool {
		for _, c := range names(ask) {
			for _, perm := range perms {
				if !strings.ContainsRune(names(perm), c) {
					return false
				}
			}
		}
		return true
	}
	most := 7
	entries := map[string]int{}
	for _, e := range l {
		entries[fmt.Sprint("ugm"[e.Kind-1:e.Kind], e.Id)] = e.Perm
	}
	if perm, ok := entries["m0"]; ok {
		most = perm
	}
	if who == 0 {
		return true
	}
	if who == uid {
		return within(mode / 64 % 8)
	}
	if perm, ok := entries[fmt.Sprint("u", who)]; ok {
		return within(perm, most)
	}
	found, good := false, false
	for _, g := range groups {
		if g == gid {
			found, good = true, good || within(mode/8%8, most)
		}
		if perm, ok := entries[fmt.Sprint("g", g)]; ok {
			found, good = true, good || within(perm, most)
		}
	}
	if found {
		return good
	}
	return within(mode % 8)
}

func TestLetsOfAllSmallLists(t *testing.T) {
	from := aces{user(1, 5), user(2, 3), group(1, 1), group(2, 6), group(3, 3), mask(7), mask(5), mask(2)}
	seen, yes := 0, 0
	everyList(5, from, func(l aces) {
		if !acl.May(l) {
			return
		}
		seen++
		for _, mode := range []int{0, 0o421, 0o124, 0o750, 0o036, 0o607} {
			for _, groups := range [][]int{nil, {1}, {2, 1}, {3, 7, 2}} {
				for who := range 4 {
					for ask := range 8 {
						for id := range 3 {
							want := lets(l, mode, id, id+1, who, groups, ask)
							if acl.Lets(l, mode, id, id+1, who, groups, ask) != want {
								t.Fatalf("Lets(%v, %#o, %d, %d, %d, %v, %d) = %v", l, mode, id, id+1, who, groups, ask, !want)
							}
							if want {
								yes++
							}
						}
					}
				}
			}
		}
	})
	if seen < 90 || yes < 10000 {
		t.Fatal(seen, yes)
	}
}

func TestShow(t *testing.T) {
	for _, x := range []struct {
		l    aces
		want string
	}{
		{nil, ""}, {aces{}, ""}, {aces{mask(7)}, "m0:7"}, {aces{mask(0)}, "m0:0"},
		{aces{user(5, 6)}, "u5:6"}, {aces{group(12, 3)}, "g12:3"}, {aces{user(top, 4), group(0, 1), mask(7)}, "u2147483647:4 g0:1 m0:7"},
		{aces{mask(7), user(2, 1), user(2, 1), user(1, 1)}, "m0:7 u2:1 u2:1 u1:1"}, // as they stand
		{aces{{}}, "?0:0"}, {aces{{Kind: 4, Id: 5, Perm: 6}, {Kind: -1, Id: -2, Perm: -3}}, "?5:6 ?-2:-3"},
		{aces{{Kind: math.MinInt, Id: math.MinInt, Perm: math.MinInt}}, "?-9223372036854775808:-9223372036854775808"},
		{aces{{Kind: math.MaxInt, Id: math.MaxInt, Perm: math.MaxInt}}, "?9223372036854775807:9223372036854775807"},
		{aces{user(-1, 8), group(10, 100), {Kind: api.AMask, Id: 9, Perm: -7}}, "u-1:8 g10:100 m9:-7"},
		{aces{{Kind: 1 + 256}, {Kind: 2 + 1<<32}}, "?0:0 ?0:0"},
		{many(17)[:3], "u0:0 u3:1 u6:2"},
	} {
		old := slices.Clone(x.l)
		if got := acl.Show(x.l); got != x.want {
			t.Errorf("Show(%v) = %q", x.l, got)
		}
		if !slices.Equal(x.l, old) {
			t.Errorf("the argument %v was changed to %v", old, x.l)
		}
	}
}

func TestSame(t *testing.T) {
	a := aces{user(1, 2), group(1, 2), mask(7)}
	lists := []aces{
		nil, {mask(7)}, {mask(6)}, {{Kind: api.AMask, Id: 1, Perm: 7}}, {user(0, 7)}, {{}}, {{}, {}},
		a, a[:2], a[1:], {a[1], a[0], a[2]}, {a[0], a[1], mask(6)}, {user(1, 3), a[1], a[2]}, {a[0], group(2, 2), a[2]},
		append(slices.Clone(a), mask(7)), append(aces{user(1, 2)}, a...), {a[0], a[0], a[2]},
		{{Kind: math.MinInt, Id: -1, Perm: 9}}, {{Kind: math.MinInt, Id: -1, Perm: 9 + 1<<32}},
	}
	for i, x := range lists {
		for j, y := range lists {
			if acl.Same(x, slices.Clone(y)) != (i == j) {
				t.Errorf("Same(%v, %v) = %v", x, y, i != j)
			}
		}
	}
	if !acl.Same(nil, aces{}) || !acl.Same(aces{}, nil) || !acl.Same(aces{}, aces{}) || !acl.Same(a, a) {
		t.Error("no entries are the same as no entries")
	}
}

// Promise 3.3.

func TestPermissionsSurvive(t *testing.T) {
	for _, l := range valid() {
		// However the entries come to stand, the list that is set is the one that was saved.
		for turn := range len(l) + 1 {
			moved := append(slices.Clone(l[turn:]), l[:turn]...)
			got, code := acl.Norm(moved)
			if code != api.OK || !acl.Same(got, l) || !acl.May(got) || acl.Show(got) != acl.Show(l) {
				t.Fatalf("Norm(%v) = %v, %d", moved, got, code)
			}
			for who := range 4 {
				for ask := range 8 {
					if acl.Lets(got, 0o640, 1, 2, who, []int{who}, ask) != acl.Lets(l, 0o640, 1, 2, who, []int{who}, ask) {
						t.Fatalf("%v does not let what %v lets", got, l)
					}
				}
			}
		}
	}
	// What tells two lists apart is told by Same and Show alike.
	var all []aces
	everyList(3, few, func(l aces) { all = append(all, l) })
	for _, x := range all {
		for _, y := range all[:100] {
			if acl.Same(x, y) != (acl.Show(x) == acl.Show(y)) {
				t.Fatalf("%v and %v", x, y)
			}
		}
	}
}
