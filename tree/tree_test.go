package tree_test

import (
	"fmt"
	"math"
	"math/rand"
	"reflect"
	"slices"
	"strconv"
	"strings"
	"testing"

	"steamer/api"
	"steamer/node"
	"steamer/path"
	"steamer/tree"
)

const past = 1 << 32 // what is lost where 32 bits are kept

type list = []api.Entry

func e(p string, n int) api.Entry { return api.Entry{Path: p, Node: n} }

// of returns the tree of these entries and nodes.
func of(l list, nodes ...api.Node) api.Tree { return api.Tree{Entries: l, Nodes: nodes} }

func dir() api.Node { return api.Node{Kind: api.KDir} }

// file returns a file that has this byte alone.
func file(data string) api.Node {
	return api.Node{Kind: api.KFile, Size: 1, Data: []api.Piece{{Data: data}}}
}

// owned returns n with valid metadata in which no field is zero.
func owned(n api.Node) api.Node {
	n.Meta = api.Meta{
		Mode: 0o640, Uid: 7, Gid: 8, Time: 1234567890123456789,
		Attrs: []api.Attr{{Name: "a", Value: "1"}, {Name: "b", Value: "2"}},
		Acl:   []api.Ace{{Kind: api.AUser, Id: 5, Perm: 6}, {Kind: api.AMask, Perm: 7}},
	}
	return n
}

// kinds returns a valid node of each kind, with metadata.
func kinds() []api.Node {
	return []api.Node{
		owned(dir()),
		owned(api.Node{Kind: api.KFile, Size: 99, Data: []api.Piece{{At: 0, Data: "ab"}, {At: 7, Data: "c"}}}),
		owned(api.Node{Kind: api.KLink, Target: "a/../x"}),
		owned(api.Node{Kind: api.KChar, Major: 1, Minor: 2}),
		owned(api.Node{Kind: api.KBlock, Major: 3, Minor: 4}),
		owned(api.Node{Kind: api.KFifo}),
	}
}

// sample returns a valid tree with all kinds of nodes and a hard link of each kind that may have one.
func sample() api.Tree {
	k := kinds()
	return of(list{
		e("", 0), e("a", 1), e("a/b", 2), e("a/b/c", 3), e("a/b/d", 4), e("a/d", 3), e("a-b", 5), e("e", 6), e("e/f", 7), e("e/g", 3), e("e/h", 8), e("i", 4), e("j", 7), e("k", 8), e("l", 5),
	}, k[0], dir(), k[0], k[1], k[2], k[3], k[0], k[4], k[5])
}

// deepest returns a valid tree with a path of MaxDepth names.
func deepest() api.Tree {
	t, p := of(list{e("", 0)}, dir()), ""
	for i := range api.MaxDepth {
		p = strings.TrimPrefix(p+"/d", "/")
		t.Entries, t.Nodes = append(t.Entries, e(p, i+1)), append(t.Nodes, dir())
	}
	return t
}

// wide returns a tree of n entries: the root and files in it, or hard links to one.
func wide(n int, links bool) api.Tree {
	t := of(list{e("", 0)}, dir())
	for i := 1; i < n; i++ {
		at := i
		if links {
			at = 1
		}
		t.Entries = append(t.Entries, e(strconv.Itoa(10000000+i), at))
		if at == len(t.Nodes) {
			t.Nodes = append(t.Nodes, file("x"))
		}
	}
	return t
}

// goodTrees are valid trees.
func goodTrees() []api.Tree {
	f := file("x")
	return []api.Tree{
		of(list{e("", 0)}, dir()), of(list{e("", 0)}, owned(dir())), sample(), deepest(),
		wide(2, false), wide(3, true), wide(api.MaxPaths, false), wide(api.MaxPaths, true), wide(api.MaxPaths-1, true),
		of(list{e("", 0), e("a", 1), e("b", 2)}, dir(), f, f), // nodes that are equal are two nodes all the same
		of(list{e("", 0), e("a", 1), e("b", 1)}, dir(), f), of(list{e("", 0), e("a", 1), e("b", 1), e("c", 2), e("d", 1)}, dir(), f, f),
		of(list{e("", 0), e("a", 1), e("a/b", 2), e("a-b", 3)}, dir(), dir(), f, f), of(list{e("", 0), e("a", 1), e("a/z", 2), e("a\x01", 2)}, dir(), dir(), f),
		of(list{e("", 0), e("A", 1), e("a", 1), e("aa", 1), e("a\xff", 1), e("\xc3\xa9", 1), e("\xff", 1)}, dir(), f),
		of(list{e("", 0), e(" ", 1), e("...", 1), e("a", 2), e("a/...", 1)}, dir(), f, dir()),
		of(list{e("", 0), e(strings.Repeat("n", api.MaxName), 1)}, dir(), f),
	}
}

// badTrees are invalid trees which no order of their entries and nodes makes valid.
func badTrees() []api.Tree {
	f, d, n := file("x"), dir(), strings.Repeat("n", api.MaxName)
	l := []api.Tree{
		{}, of(nil, d), of(list{}, d, f), wide(api.MaxPaths+1, false), wide(api.MaxPaths+1, true), wide(100000, true),
		// the root
		of(list{e("", 0)}), of(list{e("", 0)}, f), of(list{e("", 0)}, kinds()[2]), of(list{e("a", 0)}, d), of(list{e("a", 0), e("a/b", 1)}, d, f), of(list{e("", 0), e("a", 1)}, f, d), of(list{e("", 0), e("a", 0)}, f),
		of(list{e("/", 0)}, d), of(list{e(".", 0)}, d), of(list{e("", 0), e("", 1)}, d, d), of(list{e("", 0), e("", 0)}, d),
		// paths
		of(list{e("", 0), e("a", 1), e("a", 2)}, d, f, f), of(list{e("", 0), e("a", 1), e("a", 1)}, d, f), of(list{e("", 0), e("a", 1), e("b", 2), e("a", 3)}, d, f, f, f),
		of(list{e("", 0), e("a", 1), e("a/b", 2), e("a/b", 2)}, d, d, f),
		// parents
		of(list{e("", 0), e("a/b", 1)}, d, f), of(list{e("", 0), e("a", 1), e("a/b/c", 2)}, d, d, f), of(list{e("", 0), e("a", 1), e("a/b", 2)}, d, f, f), of(list{e("", 0), e("a", 1), e("b/c", 2)}, d, d, f),
		of(list{e("", 0), e("a", 1), e("a/b", 1)}, d, f), of(list{e("", 0), e("a", 1), e("a/b", 2)}, d, kinds()[2], f), of(list{e("", 0), e("a-", 1), e("a/b", 2)}, d, d, f),
		// directories with two entries
		of(list{e("", 0), e("a", 0)}, d), of(list{e("", 0), e("a", 1), e("b", 1)}, d, d), of(list{e("", 0), e("a", 1), e("a/b", 1)}, d, d), of(list{e("", 0), e("a", 1), e("a/b", 0)}, d, d),
	}
	for _, p := range []string{"/", "a/", "/a", "a//b", ".", "..", "a/.", "a/..", "../a", "a\x00", "a/b\x00", n + "n", "a/" + n + "n", "a" + strings.Repeat("/d", api.MaxDepth), strings.Repeat("a/", 60), strings.Repeat("x", 1<<20)} {
		l = append(l, of(list{e("", 0), e("a", 1), e(p, 2)}, d, d, f))
	}
	for _, i := range []int{-1, 3, 4, past, past + 2, -past, math.MinInt, math.MaxInt} {
		l = append(l, of(list{e("", 0), e("a", 1), e("a/b", i)}, d, d, f), of(list{e("", i), e("a", 1), e("b", 2)}, d, f, f), of(list{e("", 0), e("a", i), e("a/b", 2)}, d, d, f))
	}
	for _, bad := range badNodes() {
		l = append(l, of(list{e("", 0), e("a", 1)}, d, bad), of(list{e("", 0), e("a", 1), e("b", 2), e("c", 1)}, d, bad, f), of(list{e("", 0)}, bad))
	}
	return l
}

// badNodes are invalid nodes.
func badNodes() []api.Node {
	return []api.Node{
		{}, {Kind: -1}, {Kind: 7}, {Kind: past + api.KDir}, {Kind: api.KDir, Size: 1}, {Kind: api.KDir, Meta: api.Meta{Mode: 4096}}, {Kind: api.KLink}, {Kind: api.KChar, Minor: 65536},
		{Kind: api.KFile, Size: -1}, {Kind: api.KFile, Data: []api.Piece{{Data: "a"}}}, {Kind: api.KFile, Meta: api.Meta{Attrs: []api.Attr{{}}}}, {Kind: api.KFifo, Meta: api.Meta{Acl: []api.Ace{{Kind: api.AUser}}}},
	}
}

// messyTrees are invalid trees, each with the valid tree that it becomes.
func messyTrees() [][2]api.Tree {
	f, g, d := file("x"), file("y"), dir()
	l := [][2]api.Tree{
		{of(list{e("", 1)}, f, d), of(list{e("", 0)}, d)}, {of(list{e("", 0)}, d, f), of(list{e("", 0)}, d)}, {of(list{e("", 0)}, d, api.Node{}), of(list{e("", 0)}, d)}, {of(list{e("", 2)}, f, api.Node{}, d), of(list{e("", 0)}, d)},
		{of(list{e("", 0), e("b", 1), e("a", 2)}, d, f, g), of(list{e("", 0), e("a", 1), e("b", 2)}, d, g, f)},
		{of(list{e("", 0), e("a", 2), e("b", 1)}, d, f, g), of(list{e("", 0), e("a", 1), e("b", 2)}, d, g, f)},
		{of(list{e("", 1), e("a", 0)}, f, d), of(list{e("", 0), e("a", 1)}, d, f)}, {of(list{e("a", 1), e("", 0)}, d, f), of(list{e("", 0), e("a", 1)}, d, f)},
		{of(list{e("", 0), e("a-b", 3), e("a", 1), e("a/b", 2)}, d, d, f, g), of(list{e("", 0), e("a", 1), e("a/b", 2), e("a-b", 3)}, d, d, f, g)},
		{of(list{e("", 0), e("a", 1), e("a-b", 2), e("a/b", 3)}, d, d, f, g), of(list{e("", 0), e("a", 1), e("a/b", 2), e("a-b", 3)}, d, d, g, f)},
		{of(list{e("", 0), e("a", 2)}, d, g, f, g), of(list{e("", 0), e("a", 1)}, d, f)}, {of(list{e("c", 3), e("b", 1), e("a", 3), e("", 0)}, d, f, g, g), of(list{e("", 0), e("a", 1), e("b", 2), e("c", 1)}, d, g, f)},
		{of(list{e("", 0), e("a", 1), e("b", 2)}, d, f, f, f), of(list{e("", 0), e("a", 1), e("b", 2)}, d, f, f)},
		{of(list{e("", 0), e("a", 2), e("b", 1), e("c", 2)}, d, f, g), of(list{e("", 0), e("a", 1), e("b", 2), e("c", 1)}, d, g, f)},
	}
	r := rand.New(rand.NewSource(3))
	for _, t := range goodTrees() {
		for _, m := range []api.Tree{backwards(t), mixed(r, t), mixed(r, t)} {
			l = append(l, [2]api.Tree{m, t})
		}
	}
	return l
}

// backwards returns t with its entries and its nodes in the opposite order, and with a node that is not used.
func backwards(t api.Tree) api.Tree {
	var out api.Tree
	for _, x := range slices.Backward(t.Entries) {
		out.Entries = append(out.Entries, e(x.Path, len(t.Nodes)-x.Node))
	}
	out.Nodes = append(out.Nodes, file("-"))
	for _, n := range slices.Backward(t.Nodes) {
		out.Nodes = append(out.Nodes, n)
	}
	return out
}

// mixed returns t with its entries and its nodes in some order, and with nodes that are not used.
func mixed(r *rand.Rand, t api.Tree) api.Tree {
	nodes := append(slices.Clone(t.Nodes), file("-"), api.Node{}, dir())
	order := r.Perm(len(nodes))
	out := api.Tree{Nodes: make([]api.Node, len(nodes))}
	for i, n := range nodes {
		out.Nodes[order[i]] = n
	}
	for _, i := range r.Perm(len(t.Entries)) {
		out.Entries = append(out.Entries, e(t.Entries[i].Path, order[t.Entries[i].Node]))
	}
	return out
}

// allTrees are trees of all sorts.
func allTrees() []api.Tree {
	l := append(goodTrees(), badTrees()...)
	for _, x := range messyTrees() {
		l = append(l, x[0])
	}
	return l
}

// deep returns a copy of t, apart from the code.
func deep(t api.Tree) api.Tree {
	t.Entries, t.Nodes = slices.Clone(t.Entries), slices.Clone(t.Nodes)
	for i, n := range t.Nodes {
		n.Data, n.Meta.Attrs, n.Meta.Acl = slices.Clone(n.Data), slices.Clone(n.Meta.Attrs), slices.Clone(n.Meta.Acl)
		t.Nodes[i] = n
	}
	return t
}

// equal reports whether all fields are equal, apart from the code: an empty list is an empty list, nil or not.
func equal(a, b api.Tree) bool { return reflect.DeepEqual(bare(a), bare(b)) }

func bare(t api.Tree) api.Tree {
	t = api.Tree{Entries: append(list{}, t.Entries...), Nodes: append([]api.Node{}, t.Nodes...)}
	for i, n := range t.Nodes {
		n.Data, n.Meta.Attrs, n.Meta.Acl = append([]api.Piece{}, n.Data...), append([]api.Attr{}, n.Meta.Attrs...), append([]api.Ace{}, n.Meta.Acl...)
		t.Nodes[i] = n
	}
	return t
}

func show(t api.Tree) string {
	s := fmt.Sprintf("%.300s;", fmt.Sprintf("%v", t.Entries))
	for _, n := range t.Nodes {
		s += fmt.Sprintf(" %d%.20v", n.Kind, n.Data)
	}
	return fmt.Sprintf("%.600s", s)
}

// everyTree calls f with every list of up to n entries that have these paths, over these nodes; numbers are from -1 to one beyond.
func everyTree(n int, paths []string, nodes []api.Node, f func(t api.Tree)) {
	var grow func(l list)
	grow = func(l list) {
		f(of(slices.Clone(l), nodes...))
		if len(l) == n {
			return
		}
		for _, p := range paths {
			for i := -1; i <= len(nodes); i++ {
				grow(append(l[:len(l):len(l)], e(p, i)))
			}
		}
	}
	grow(nil)
}

// smallTrees calls f with many small trees, most of which are not valid.
func smallTrees(f func(t api.Tree)) {
	for _, nodes := range [][]api.Node{
		nil, {dir()}, {file("x")}, {dir(), file("x")}, {file("x"), dir()}, {dir(), dir()}, {dir(), {}},
		{dir(), dir(), file("x")}, {dir(), file("x"), file("x")}, {file("x"), dir(), dir()}, {dir(), {}, file("x")},
	} {
		everyTree(3, []string{"", "a", "a/b", "a-", "a/", "b"}, nodes, f)
	}
	everyTree(4, []string{"", "a", "a/b", "a-"}, []api.Node{dir(), dir()}, f)
	everyTree(4, []string{"", "a", "a/b"}, []api.Node{dir(), dir(), file("x")}, f)
	everyTree(4, []string{"", "a", "b", "c"}, []api.Node{dir(), file("x"), file("y")}, f)
}

// whole tells of an entry of a valid tree what does not hang on the numbers: its node and all paths of the node.
type whole struct {
	node  api.Node
	links string
}

// told tells all of t, apart from the code, and whether some order of its entries and nodes would make it valid.
func told(t api.Tree) (map[string]whole, bool) {
	out := map[string]whole{}
	for _, x := range t.Entries {
		if _, ok := out[x.Path]; ok || x.Node < 0 || x.Node >= len(t.Nodes) || !path.May(x.Path) || !node.May(t.Nodes[x.Node]) {
			return nil, false
		}
		var links []string
		for _, y := range t.Entries {
			if y.Node == x.Node {
				links = append(links, y.Path)
			}
		}
		if t.Nodes[x.Node].Kind == api.KDir && len(links) != 1 {
			return nil, false
		}
		slices.Sort(links)
		out[x.Path] = whole{t.Nodes[x.Node], strings.Join(links, "\n")}
	}
	for p := range out {
		above := p[:max(strings.LastIndexByte(p, '/'), 0)]
		if out[above].node.Kind != api.KDir { // the root is above itself here
			return nil, false
		}
	}
	return out, len(out) >= 1 && len(out) <= 100
}

// ordered reports, apart from the code, whether entries rise and nodes are numbered as they occur and all used.
func ordered(t api.Tree) bool {
	var first []int
	for i, x := range t.Entries {
		if i > 0 && slices.Compare(strings.Split(t.Entries[i-1].Path, "/"), strings.Split(x.Path, "/")) >= 0 {
			return false
		}
		if !slices.Contains(first, x.Node) {
			first = append(first, x.Node)
		}
	}
	return slices.IsSorted(first) && len(first) == len(t.Nodes) && (len(first) == 0 || first[0] == 0 && first[len(first)-1] == len(first)-1)
}

func TestExamplesAreAtTheLimits(t *testing.T) {
	if api.MaxPaths != 100 || api.MaxDepth != 8 || api.MaxName != 20 || !path.May(deepest().Entries[8].Path) || !path.May(strconv.Itoa(10100000)) {
		t.Fatal("the limits are not the document's")
	}
}

// Promise 6.1.

func TestMay(t *testing.T) {
	for i, x := range goodTrees() {
		if old := deep(x); !tree.May(x) || !equal(x, old) {
			t.Errorf("%d: %s is valid", i, show(x))
		}
	}
	for i, x := range badTrees() {
		if old := deep(x); tree.May(x) || !equal(x, old) {
			t.Errorf("%d: %s is not valid", i, show(x))
		}
	}
	for i, x := range messyTrees() {
		if old := deep(x[0]); tree.May(x[0]) || !equal(x[0], old) {
			t.Errorf("%d: %s is not valid as it is ordered", i, show(x[0]))
		}
	}
}

func TestMayOfAllSmallTrees(t *testing.T) {
	right, wrong := 0, 0
	smallTrees(func(x api.Tree) {
		_, want := told(x)
		want = want && ordered(x)
		if tree.May(x) != want {
			t.Fatalf("May(%s) = %v", show(x), !want)
		}
		if want {
			right++
		} else {
			wrong++
		}
	})
	if right < 15 || wrong < 10000 {
		t.Fatal(right, wrong)
	}
}

func TestFindKidsAndClass(t *testing.T) {
	odd := of(list{e("b", 7), e("a", 7), e("", -1), e("a", 0), e("a/", -1), e("b", 3), e("a/c", 7), e("a/b", 0), e("/x", 0), e("c//d", 9), e("a/c", 2), e("x/y/z", -1)}, dir())
	for i, x := range []struct {
		t     api.Tree
		p     string
		n     int
		ok    bool
		kids  []string
		class []string
	}{
		{sample(), "", 0, true, []string{"a", "a-b", "e", "i", "j", "k", "l"}, []string{""}}, {sample(), "a", 1, true, []string{"b", "d"}, []string{"a"}}, {sample(), "a/b", 2, true, []string{"c", "d"}, []string{"a/b"}},
		{sample(), "a/b/c", 3, true, nil, []string{"a/b/c", "a/d", "e/g"}}, {sample(), "e/g", 3, true, nil, []string{"a/b/c", "a/d", "e/g"}}, {sample(), "i", 4, true, nil, []string{"a/b/d", "i"}}, {sample(), "k", 8, true, nil, []string{"e/h", "k"}},
		{sample(), "e", 6, true, []string{"f", "g", "h"}, []string{"e"}}, {sample(), "l", 5, true, nil, []string{"a-b", "l"}},
		{sample(), "b", 0, false, nil, nil}, {sample(), "a/", 0, false, nil, nil}, {sample(), "/", 0, false, nil, nil}, {sample(), "/a", 0, false, nil, nil}, {sample(), "A", 0, false, nil, nil}, {sample(), "a/b/", 0, false, nil, nil}, {sample(), "a-", 0, false, nil, nil},
		{sample(), ".", 0, false, nil, nil}, {sample(), strings.Repeat("a", 1<<20), 0, false, nil, nil}, {sample(), "a\x00", 0, false, nil, nil},
		{api.Tree{}, "", 0, false, nil, nil}, {api.Tree{}, "a", 0, false, nil, nil}, {of(nil, dir()), "", 0, false, nil, nil}, {of(list{e("a", 0)}), "", 0, false, []string{"a"}, nil}, {of(list{e("a/b", 0)}), "a", 0, false, []string{"b"}, nil},
		// of trees that are not valid: the first entry counts, and all of them are told in their order
		{odd, "a", 7, true, []string{"c", "b", "c"}, []string{"b", "a", "a/c"}}, {odd, "", -1, true, []string{"b", "a", "a", "b"}, []string{"", "a/", "x/y/z"}}, {odd, "b", 7, true, nil, []string{"b", "a", "a/c"}},
		{odd, "a/b", 0, true, nil, []string{"a", "a/b", "/x"}}, {odd, "a/", -1, true, nil, []string{"", "a/", "x/y/z"}}, {odd, "c//d", 9, true, nil, []string{"c//d"}}, {odd, "/x", 0, true, nil, []string{"a", "a/b", "/x"}},
		{odd, "c/", 0, false, nil, nil}, {odd, "c", 0, false, nil, nil}, {odd, "x/y", 0, false, []string{"z"}, nil}, {odd, "/", 0, false, nil, nil}, {odd, "d", 0, false, nil, nil},
		{of(list{e("", 0), e("", 0)}), "", 0, true, nil, []string{"", ""}}, {of(list{e("a", math.MaxInt), e("b", math.MinInt), e("a", 1)}), "a", math.MaxInt, true, nil, []string{"a"}}, {of(list{e("a", past), e("b", 0)}), "b", 0, true, nil, []string{"b"}},
	} {
		old := deep(x.t)
		if n, ok := tree.Find(x.t, x.p); n != x.n || ok != x.ok {
			t.Errorf("%d: Find(%q) = %d, %v", i, x.p, n, ok)
		}
		if got := tree.Kids(x.t, x.p); !slices.Equal(got, x.kids) {
			t.Errorf("%d: Kids(%q) = %q", i, x.p, got)
		}
		if got := tree.Class(x.t, x.p); !slices.Equal(got, x.class) || !equal(x.t, old) {
			t.Errorf("%d: Class(%q) = %q", i, x.p, got)
		}
	}
}

// In valid trees every entry is found, and is in the class and among the kids that it should be in.
func TestEveryEntryIsFound(t *testing.T) {
	for i, x := range goodTrees() {
		all, _ := told(x)
		kids := 0
		for _, y := range x.Entries {
			n, ok := tree.Find(x, y.Path)
			class := tree.Class(x, y.Path)
			slices.Sort(class)
			if !ok || n != y.Node || strings.Join(class, "\n") != all[y.Path].links {
				t.Fatalf("%d: %q: %d, %v, %q", i, y.Path, n, ok, class)
			}
			for _, name := range tree.Kids(x, y.Path) {
				p, code := path.Join(y.Path, name)
				if _, ok := all[p]; !ok || code != api.OK {
					t.Fatalf("%d: %q has no %q", i, y.Path, name)
				}
				kids++
			}
		}
		if kids != len(x.Entries)-1 {
			t.Fatalf("%d: %d kids", i, kids)
		}
	}
}

func TestBytes(t *testing.T) {
	data := func(l ...string) api.Node {
		var n api.Node
		for _, s := range l {
			n.Data = append(n.Data, api.Piece{At: -1, Data: s})
		}
		return n
	}
	for i, x := range []struct {
		t    api.Tree
		want int
	}{
		{api.Tree{}, 0}, {of(list{e("", 0)}, dir()), 0}, {sample(), 3}, {wide(100, false), 99}, {wide(100, true), 1}, // a node counts once, however many links it has
		{of(nil, file("x"), file("y")), 2}, {of(list{e("a", 5), e("a", 5)}, file("x"), data("ab", "", "cde"), dir(), data(strings.Repeat("x", 5000))), 5006},
		{of(list{e("a", 0)}, owned(api.Node{Kind: api.KLink, Target: "abc", Size: 99})), 0},
	} {
		old := deep(x.t)
		if got := tree.Bytes(x.t); got != x.want || !equal(x.t, old) {
			t.Errorf("%d: Bytes = %d", i, got)
		}
	}
}

// Promise 6.2.

func TestNorm(t *testing.T) {
	for i, x := range goodTrees() {
		old := deep(x)
		if got, code := tree.Norm(x); code != api.OK || !equal(got, old) || !equal(x, old) {
			t.Errorf("%d: Norm(%s) = %s, %d", i, show(x), show(got), code)
		}
	}
	for i, x := range messyTrees() {
		old := deep(x[0])
		if got, code := tree.Norm(x[0]); code != api.OK || !equal(got, x[1]) || !equal(x[0], old) {
			t.Errorf("%d: Norm(%s) = %s, %d", i, show(x[0]), show(got), code)
		}
	}
	r := rand.New(rand.NewSource(4))
	for i, x := range badTrees() {
		old := deep(x)
		if got, code := tree.Norm(x); code != api.ErrArg || !equal(got, api.Tree{}) || !equal(x, old) {
			t.Errorf("%d: Norm(%s) = %s, %d", i, show(x), show(got), code)
		}
		// Another order makes it no better.
		r.Shuffle(len(x.Entries), func(i, j int) { x.Entries[i], x.Entries[j] = x.Entries[j], x.Entries[i] })
		if got, code := tree.Norm(x); code != api.ErrArg || !equal(got, api.Tree{}) {
			t.Errorf("%d: Norm(%s) = %s, %d", i, show(x), show(got), code)
		}
	}
}

func TestNormOfAllSmallTrees(t *testing.T) {
	right, messy := 0, 0
	smallTrees(func(x api.Tree) {
		all, want := told(x)
		got, code := tree.Norm(x)
		if !want {
			if code != api.ErrArg || !equal(got, api.Tree{}) {
				t.Fatalf("Norm(%s) = %s, %d", show(x), show(got), code)
			}
			return
		}
		right++
		if !ordered(x) {
			messy++
		}
		back, ok := told(got)
		if code != api.OK || !ok || !ordered(got) || !tree.May(got) || !reflect.DeepEqual(back, all) {
			t.Fatalf("Norm(%s) = %s, %d", show(x), show(got), code)
		}
	})
	if right < 100 || messy < 80 {
		t.Fatal(right, messy)
	}
}

// Whatever the order of its entries and nodes: one tree (T2, as far as this layer goes).
func TestNormDoesNotHangOnTheOrder(t *testing.T) {
	r := rand.New(rand.NewSource(5))
	for _, x := range goodTrees() {
		for range 20 {
			m := mixed(r, x)
			if got, code := tree.Norm(m); code != api.OK || !equal(got, x) {
				t.Fatalf("Norm(%s) = %s, %d", show(m), show(got), code)
			}
			if !tree.Same(m, x) || !tree.Same(x, m) || !tree.Same(m, mixed(r, x)) {
				t.Fatalf("%s and %s are the same", show(m), show(x))
			}
		}
	}
}

// changes are changes to a valid tree that leave it valid: no two of them make the same tree.
func changes() []func(t *api.Tree) {
	var l []func(t *api.Tree)
	for _, f := range []func(n *api.Node){
		func(n *api.Node) {},
		func(n *api.Node) { n.Meta.Mode++ }, func(n *api.Node) { n.Meta.Uid++ }, func(n *api.Node) { n.Meta.Gid++ }, func(n *api.Node) { n.Meta.Time++ }, func(n *api.Node) { n.Meta.Attrs[1].Name += "x" },
		func(n *api.Node) { n.Meta.Attrs[0].Value += "x" }, func(n *api.Node) { n.Meta.Attrs = n.Meta.Attrs[:1] }, func(n *api.Node) { n.Meta.Attrs = nil }, func(n *api.Node) { n.Meta.Acl[0].Id++ },
		func(n *api.Node) { n.Meta.Acl[0].Perm-- }, func(n *api.Node) { n.Meta.Acl[0].Kind++ }, func(n *api.Node) { n.Meta.Acl = nil },
		func(n *api.Node) { n.Size++ }, func(n *api.Node) { n.Data[0].Data = "xb" }, func(n *api.Node) { n.Data[1].At++ }, func(n *api.Node) { n.Data = n.Data[:1] }, func(n *api.Node) { n.Data[1].Data += "\x00" },
	} {
		l = append(l, func(t *api.Tree) { f(&t.Nodes[3]) })
	}
	return append(l,
		func(t *api.Tree) { t.Nodes[4].Target += "x" }, func(t *api.Tree) { t.Nodes[5].Major++ }, func(t *api.Tree) { t.Nodes[5].Minor++ }, func(t *api.Tree) { t.Nodes[5].Kind = api.KBlock }, func(t *api.Tree) { t.Nodes[8] = kinds()[3] },
		func(t *api.Tree) { t.Nodes[0].Meta.Mode++ }, func(t *api.Tree) { t.Nodes[1].Meta.Mode++ },
		func(t *api.Tree) { t.Entries[14].Path = "m" }, func(t *api.Tree) { t.Entries[14].Path = "a/m" }, func(t *api.Tree) { t.Entries = t.Entries[:14] }, func(t *api.Tree) { t.Entries = append(t.Entries, e("m", 5)) },
		func(t *api.Tree) { t.Entries[14].Node = 8 }, func(t *api.Tree) { t.Entries[12].Node, t.Entries[13].Node = 8, 7 },
		// one more node instead of a link, and a link instead of a node
		func(t *api.Tree) { t.Entries[14].Node, t.Nodes = 9, append(t.Nodes, t.Nodes[5]) }, func(t *api.Tree) { t.Entries[5].Node, t.Nodes = 9, append(t.Nodes, t.Nodes[3]) },
		func(t *api.Tree) { t.Entries[9].Node, t.Nodes = 9, append(t.Nodes, t.Nodes[3]) }, func(t *api.Tree) { t.Entries[3].Node, t.Nodes = 9, append(t.Nodes, t.Nodes[3]) }, func(t *api.Tree) { t.Entries[10].Node, t.Entries[13].Node = 7, 7 },
	)
}

// Two trees are the same just when no field tells them apart.
func TestSame(t *testing.T) {
	r := rand.New(rand.NewSource(6))
	var l []api.Tree
	for _, f := range changes() {
		x := deep(sample())
		f(&x)
		l = append(l, x)
	}
	l = append(l, goodTrees()...)
	l = slices.DeleteFunc(l, func(x api.Tree) bool { return equal(x, sample()) })
	l = append(l, sample())
	for i, a := range l {
		if _, ok := told(a); !ok {
			t.Fatalf("%d: %s", i, show(a))
		}
		for j, b := range l {
			old, older := deep(a), deep(b)
			if tree.Same(a, b) != (i == j) || tree.Same(a, mixed(r, b)) != (i == j) || tree.Same(mixed(r, a), b) != (i == j) || !equal(a, old) || !equal(b, older) {
				t.Fatalf("%d and %d: %s and %s", i, j, show(a), show(b))
			}
		}
	}
	if len(l) < 40 {
		t.Fatal(len(l))
	}
}

// A tree that cannot be put in order is the same as none, not even as itself.
func TestSameOfInvalidTrees(t *testing.T) {
	for i, x := range badTrees() {
		if tree.Same(x, x) || tree.Same(x, sample()) || tree.Same(sample(), x) || tree.Same(x, badTrees()[0]) {
			t.Errorf("%d: %s", i, show(x))
		}
	}
	one := of(list{e("", 0)}, dir())
	two := of(list{e("", 0)}, api.Node{Kind: api.KDir, Data: []api.Piece{}, Meta: api.Meta{Attrs: []api.Attr{}, Acl: []api.Ace{}}})
	if !tree.Same(one, two) || !tree.Same(two, one) {
		t.Error("an empty list is the same as none")
	}
}

// Promise 6.3.

func TestPart(t *testing.T) {
	k := kinds()
	for i, x := range []struct {
		tops []string
		want api.Tree
	}{
		{nil, of(list{e("", 0)}, k[0])}, {[]string{}, of(list{e("", 0)}, k[0])}, // the document's example
		{[]string{""}, sample()}, {[]string{"a", "", "l"}, sample()}, {[]string{"a", "a-b", "e", "i", "j", "k", "l"}, sample()}, {[]string{"", ""}, sample()},
		{[]string{"l"}, of(list{e("", 0), e("l", 1)}, k[0], k[3])}, {[]string{"a-b"}, of(list{e("", 0), e("a-b", 1)}, k[0], k[3])}, {[]string{"l", "a-b"}, of(list{e("", 0), e("a-b", 1), e("l", 1)}, k[0], k[3])},
		{[]string{"a"}, of(list{e("", 0), e("a", 1), e("a/b", 2), e("a/b/c", 3), e("a/b/d", 4), e("a/d", 3)}, k[0], dir(), k[0], k[1], k[2])},
		{[]string{"a/b"}, of(list{e("", 0), e("a", 1), e("a/b", 2), e("a/b/c", 3), e("a/b/d", 4)}, k[0], dir(), k[0], k[1], k[2])}, // its ancestors, and nothing else in them
		{[]string{"a/b/d"}, of(list{e("", 0), e("a", 1), e("a/b", 2), e("a/b/d", 3)}, k[0], dir(), k[0], k[2])},
		{[]string{"e"}, of(list{e("", 0), e("e", 1), e("e/f", 2), e("e/g", 3), e("e/h", 4)}, k[0], k[0], k[4], k[1], k[5])},
		{[]string{"j", "e/g", "a/d"}, of(list{e("", 0), e("a", 1), e("a/d", 2), e("e", 3), e("e/g", 2), e("j", 4)}, k[0], dir(), k[1], k[0], k[4])},
		{[]string{"a/b", "a/b/c", "a/b", "a/b"}, of(list{e("", 0), e("a", 1), e("a/b", 2), e("a/b/c", 3), e("a/b/d", 4)}, k[0], dir(), k[0], k[1], k[2])},
		{[]string{"k", "i"}, of(list{e("", 0), e("i", 1), e("k", 2)}, k[0], k[2], k[5])},
	} {
		tops, whole := slices.Clone(x.tops), sample()
		if got, code := tree.Part(whole, tops); code != api.OK || !equal(got, x.want) || !slices.Equal(tops, x.tops) || !equal(whole, sample()) {
			t.Errorf("%d: Part(%q) = %s, %d", i, x.tops, show(got), code)
		}
	}
	for _, x := range goodTrees() {
		if got, code := tree.Part(x, nil); code != api.OK || !equal(got, of(list{e("", 0)}, x.Nodes[0])) {
			t.Errorf("Part(%s) = %s, %d", show(x), show(got), code)
		}
		if got, code := tree.Part(x, []string{""}); code != api.OK || !equal(got, x) {
			t.Errorf("Part(%s) = %s, %d", show(x), show(got), code)
		}
	}
}

func TestPartErrors(t *testing.T) {
	for _, tops := range [][]string{{"b"}, {"a/"}, {"/"}, {"/a"}, {"."}, {".."}, {"a/b/e"}, {"a//b"}, {"a/../a"}, {"A"}, {"a\x00"}, {"a-"}, {"l", "b"}, {"b", "l"}, {"", "b"}, {"b", ""}, {"l", "l", "x", "l"}, {strings.Repeat("a", 1<<20)}, {"a/b/c/d"}} {
		if got, code := tree.Part(sample(), tops); code != api.ErrNone || !equal(got, api.Tree{}) {
			t.Errorf("Part(%.99q) = %s, %d", tops, show(got), code)
		}
	}
	wrong := badTrees()
	for _, x := range messyTrees() {
		wrong = append(wrong, x[0]) // Part puts no tree in order that is not
	}
	for i, x := range wrong {
		for _, tops := range [][]string{nil, {""}, {"a"}, {"nowhere"}, {"/"}} {
			if got, code := tree.Part(x, tops); code != api.ErrArg || !equal(got, api.Tree{}) {
				t.Fatalf("%d: Part(%s, %q) = %s, %d", i, show(x), tops, show(got), code)
			}
		}
	}
}

// part returns the entries that Part should leave of t, apart from the code: one by one, with all that is above them.
func part(t api.Tree, tops []string) []string {
	keep := map[string]bool{"": true}
	for _, x := range t.Entries {
		for _, top := range tops {
			if top == "" || strings.HasPrefix(x.Path+"/", top+"/") {
				for p := x.Path; p != ""; p = p[:max(strings.LastIndexByte(p, '/'), 0)] {
					keep[p] = true
				}
			}
		}
	}
	var out []string
	for _, x := range t.Entries {
		if keep[x.Path] {
			out = append(out, x.Path)
		}
	}
	return out
}

// Every part, by whatever tops: its paths are the right ones, and no node and no link among them is lost.
func TestPartByEverySetOfTops(t *testing.T) {
	x := sample()
	r := rand.New(rand.NewSource(7))
	for set := range 1 << len(x.Entries) {
		if set%5 != 0 && set > 1<<11 {
			continue
		}
		var tops []string
		for i := range x.Entries {
			if set>>i&1 != 0 {
				tops = append(tops, x.Entries[i].Path)
			}
		}
		r.Shuffle(len(tops), func(i, j int) { tops[i], tops[j] = tops[j], tops[i] })
		got, code := tree.Part(x, tops)
		var paths []string
		for _, y := range got.Entries {
			paths = append(paths, y.Path)
		}
		if code != api.OK || !tree.May(got) || !slices.Equal(paths, part(x, tops)) {
			t.Fatalf("Part(%q) = %s, %d", tops, show(got), code)
		}
		if want := only(x, paths); !equal(got, want) {
			t.Fatalf("Part(%q) = %s, not %s", tops, show(got), show(want))
		}
	}
}

// only returns the tree of these entries of t, apart from the code.
func only(t api.Tree, paths []string) api.Tree {
	var out api.Tree
	number := map[int]int{}
	for _, x := range t.Entries {
		if !slices.Contains(paths, x.Path) {
			continue
		}
		if _, ok := number[x.Node]; !ok {
			number[x.Node] = len(out.Nodes)
			out.Nodes = append(out.Nodes, t.Nodes[x.Node])
		}
		out.Entries = append(out.Entries, e(x.Path, number[x.Node]))
	}
	return out
}

// A part of a part by the same tops is that part; parts by the root's entries are together the whole (T2).
func TestPartsOfParts(t *testing.T) {
	for _, x := range goodTrees() {
		var all []string
		for _, y := range x.Entries {
			one, code := tree.Part(x, []string{y.Path})
			if code != api.OK || !tree.May(one) {
				t.Fatalf("Part(%s, %q): %d", show(x), y.Path, code)
			}
			if two, code := tree.Part(one, []string{y.Path}); code != api.OK || !equal(one, two) {
				t.Fatalf("Part(%s, %q) = %s", show(one), y.Path, show(two))
			}
			all = append(all, y.Path)
		}
		if got, code := tree.Part(x, append(all, all...)); code != api.OK || !equal(got, x) {
			t.Fatalf("Part(%s) = %s, %d", show(x), show(got), code)
		}
	}
}

// Promise 6.4.

// T1, as far as this layer goes: a tree that is read path by path and put together again, in whatever order, is the tree that was there.
func TestTreeIsItsPathsNodesAndLinks(t *testing.T) {
	r := rand.New(rand.NewSource(8))
	for _, x := range goodTrees() {
		var out api.Tree
		var take func(p string)
		take = func(p string) {
			n, ok := tree.Find(x, p)
			if !ok {
				t.Fatalf("%q is not there", p)
			}
			if first := tree.Class(x, p)[0]; first == p || !slices.Contains(paths(out), first) {
				out.Nodes = append(out.Nodes, x.Nodes[n])
				for _, link := range tree.Class(x, p) {
					out.Entries = append(out.Entries, e(link, len(out.Nodes)-1))
				}
			}
			kids := tree.Kids(x, p)
			r.Shuffle(len(kids), func(i, j int) { kids[i], kids[j] = kids[j], kids[i] })
			for _, name := range kids {
				if below, _ := path.Join(p, name); !slices.Contains(paths(out), below) {
					take(below)
				}
			}
		}
		take("")
		if got, code := tree.Norm(out); code != api.OK || !equal(got, x) || !tree.Same(out, x) || tree.Bytes(got) != tree.Bytes(x) {
			t.Fatalf("%s became %s, %d", show(x), show(got), code)
		}
	}
}

func paths(t api.Tree) []string {
	var l []string
	for _, x := range t.Entries {
		l = append(l, x.Path)
	}
	return l
}

// DOC.md's rules for all calls.

// spoil changes all that the lists of t have, and what lies behind them.
func spoil(t *api.Tree) {
	for i := range t.Nodes {
		n := &t.Nodes[i]
		for i := range n.Data {
			n.Data[i] = api.Piece{At: 77, Data: "other"}
		}
		for i := range n.Meta.Attrs {
			n.Meta.Attrs[i] = api.Attr{Name: "other"}
		}
		for i := range n.Meta.Acl {
			n.Meta.Acl[i] = api.Ace{Kind: 77}
		}
		n.Data, n.Meta.Attrs, n.Meta.Acl = append(n.Data, api.Piece{At: 7}), append(n.Meta.Attrs, api.Attr{Name: "more"}), append(n.Meta.Acl, api.Ace{Id: 7})
		n.Kind = 77
	}
	for i := range t.Entries {
		t.Entries[i] = e("other", 77)
	}
	t.Entries, t.Nodes = append(t.Entries, e("more", 7)), append(t.Nodes, dir())
}

// roomy returns t with room for two more behind each of its lists, in memory of its own.
func roomy(t api.Tree) api.Tree {
	t = deep(t)
	t.Entries, t.Nodes = slices.Grow(t.Entries, 2), slices.Grow(t.Nodes, 2)
	for i := range t.Nodes {
		n := &t.Nodes[i]
		n.Data, n.Meta.Attrs, n.Meta.Acl = slices.Grow(n.Data, 2), slices.Grow(n.Meta.Attrs, 2), slices.Grow(n.Meta.Acl, 2)
	}
	return t
}

// full returns t with what lies behind its lists.
func full(t api.Tree) api.Tree {
	t.Entries, t.Nodes = t.Entries[:cap(t.Entries)], slices.Clone(t.Nodes[:cap(t.Nodes)])
	for i := range t.Nodes {
		n := &t.Nodes[i]
		n.Data, n.Meta.Attrs, n.Meta.Acl = n.Data[:cap(n.Data)], n.Meta.Attrs[:cap(n.Meta.Attrs)], n.Meta.Acl[:cap(n.Meta.Acl)]
	}
	return deep(t)
}

func TestResultsAreNewMemory(t *testing.T) {
	calls := []func(t api.Tree) api.Tree{
		func(t api.Tree) api.Tree { got, _ := tree.Norm(t); return got },
		func(t api.Tree) api.Tree { got, _ := tree.Part(t, nil); return got },
		func(t api.Tree) api.Tree { got, _ := tree.Part(t, []string{""}); return got },
		func(t api.Tree) api.Tree { got, _ := tree.Part(t, paths(t)[1:]); return got },
	}
	for i, call := range calls {
		for _, good := range goodTrees() {
			x := roomy(good)
			old := full(x)
			first := call(x)
			again := deep(first)
			second := call(x)
			spoil(&first)
			if !equal(second, again) || !equal(full(x), old) {
				t.Fatalf("%d: %s was changed to %s", i, show(good), show(x))
			}
		}
	}
	// No two lists of one answer share any: nodes that share lists in the argument do not in the answer.
	n := owned(file("x"))
	x := of(list{e("", 0), e("a", 1), e("b", 2)}, dir(), n, n)
	got, _ := tree.Norm(x)
	got.Nodes[1].Data[0].Data, got.Nodes[1].Meta.Attrs[0].Name, got.Nodes[1].Meta.Acl[0].Id = "y", "y", 77
	if !node.Same(got.Nodes[2], n) {
		t.Error("two nodes share memory")
	}
	tops := []string{"l", "a", "l", "a", "e"}
	if _, code := tree.Part(sample(), tops); code != api.OK || !slices.Equal(tops, []string{"l", "a", "l", "a", "e"}) {
		t.Error(tops)
	}
	kids, class := tree.Kids(sample(), "e"), tree.Class(sample(), "e/g")
	kids[0], class[0] = "other", "other"
	if !slices.Equal(tree.Kids(sample(), "e"), []string{"f", "g", "h"}) || !slices.Equal(tree.Class(sample(), "e/g"), []string{"a/b/c", "a/d", "e/g"}) {
		t.Error("the names share memory")
	}
}

// The same arguments give the same results, and nothing that is asked of any tree panics.
func TestSameArgumentsSameResults(t *testing.T) {
	asked := []string{"", "a", "a/b", "/", "..", "a\x00"}
	for _, x := range allTrees() {
		one, code := tree.Norm(x)
		two, again := tree.Norm(deep(x))
		if code != again || !equal(one, two) || tree.May(x) != tree.May(deep(x)) || tree.Bytes(x) != tree.Bytes(deep(x)) {
			t.Fatal(show(x))
		}
		for _, p := range asked {
			n, ok := tree.Find(x, p)
			m, yes := tree.Find(deep(x), p)
			part, code := tree.Part(x, []string{p})
			parts, again := tree.Part(deep(x), []string{p})
			if n != m || ok != yes || code != again || !equal(part, parts) || !slices.Equal(tree.Kids(x, p), tree.Kids(deep(x), p)) || !slices.Equal(tree.Class(x, p), tree.Class(deep(x), p)) {
				t.Fatal(show(x), p)
			}
		}
	}
}

// Great trees and long lists of tops are answered in a short time.
func TestGreatTrees(t *testing.T) {
	great := wide(1<<18, true)
	great.Nodes = append(great.Nodes, make([]api.Node, 1<<18)...)
	if _, code := tree.Norm(great); tree.May(great) || code != api.ErrArg || tree.Same(great, great) || tree.Bytes(great) != 1 {
		t.Fatal("a tree of many entries")
	}
	if _, ok := tree.Find(great, "10000001"); !ok || len(tree.Kids(great, "")) != 1<<18-1 || len(tree.Class(great, "10000001")) != 1<<18-1 {
		t.Fatal("entries are lost")
	}
	few := wide(api.MaxPaths, true)
	few.Nodes = append(few.Nodes, make([]api.Node, 1<<18)...) // not used
	if got, code := tree.Norm(few); code != api.OK || !equal(got, wide(api.MaxPaths, true)) {
		t.Fatal("a tree of many nodes")
	}
	var tops []string
	for i := range 1 << 20 {
		tops = append(tops, []string{"a/b", "e/g", "l"}[i%3])
	}
	want, _ := tree.Part(sample(), tops[:3])
	if got, code := tree.Part(sample(), tops); code != api.OK || !equal(got, want) {
		t.Fatal("many tops")
	}
	if got, code := tree.Part(sample(), append(tops, "nowhere")); code != api.ErrNone || !equal(got, api.Tree{}) {
		t.Fatal("many tops, and one that is not there")
	}
}
