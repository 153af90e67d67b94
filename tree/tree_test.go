package tree_test

import (
	"maps"
	"slices"
	"strconv"
	"strings"
	"testing"

	"quorum/api"
	"quorum/key"
	"quorum/tree"
)

// leaf has these keys, with the rows 1 and on.
func leaf(keys ...string) api.Node {
	n := api.Node{Keys: keys, Leaf: true}
	for i := range keys {
		n.Rows = append(n.Rows, i+1)
	}
	return n
}

func inner(keys []string, kids ...int) api.Node { return api.Node{Keys: keys, Kids: kids} }

func of(root int, nodes ...api.Node) api.Tree { return api.Tree{Nodes: nodes, Root: root} }

func with(t api.Tree, free ...int) api.Tree {
	t.Free = free
	return t
}

// some has leaves with Order / 2 and with Order keys, and free nodes.
func some() api.Tree {
	return with(of(3, leaf("a", "b"), api.Node{}, leaf("f", "g", "h", "i"), inner([]string{"c", "f"}, 0, 5, 2), api.Node{}, leaf("d", "e")), 1, 4)
}

// high has three levels, and no node has a key more than it needs.
func high() api.Tree {
	return of(0, inner([]string{"j"}, 1, 2), inner([]string{"d", "g"}, 3, 4, 5), inner([]string{"m", "p"}, 6, 7, 8),
		leaf("b", "c"), leaf("d", "e"), leaf("h", "i"), leaf("j", "k"), leaf("n", "o"), leaf("p", "q"))
}

// one is a leaf with n keys.
func one(n int) api.Tree { return of(0, leaf(upTo(n, 1)...)) }

// num is a key: they rise as n does.
func num(n int) string { return "k" + strconv.Itoa(1<<20+n) }

// upTo are n keys, with room for others between them.
func upTo(n, gap int) []string {
	var l []string
	for i := range n {
		l = append(l, num(gap*i))
	}
	return l
}

// wide has so many leaves with each so many keys, and as few nodes over them as
// there may be.
func wide(leaves, each int) api.Tree {
	var t api.Tree
	var level []int
	least := map[int]string{}
	keys := upTo(leaves*each, 10)
	lay := func(n api.Node, low string) {
		least[len(t.Nodes)] = low
		t.Nodes = append(t.Nodes, n)
	}
	for i := range leaves {
		level = append(level, len(t.Nodes))
		lay(leaf(keys[i*each:(i+1)*each]...), keys[i*each])
	}
	for len(level) > 1 {
		var next []int
		groups := (len(level) + api.Order) / (api.Order + 1)
		for g := range groups {
			kids := level[g*len(level)/groups : (g+1)*len(level)/groups]
			var bounds []string
			for _, kid := range kids[1:] {
				bounds = append(bounds, least[kid])
			}
			next = append(next, len(t.Nodes))
			lay(inner(bounds, kids...), least[kids[0]])
		}
		level = next
	}
	t.Root = level[0]
	return t
}

// With 158 leaves wide has MaxNodes nodes.
const mostLeaves = 158

func isZero(t api.Tree) bool { return len(t.Nodes) == 0 && t.Root == 0 && len(t.Free) == 0 }

func sameNode(a, b api.Node) bool {
	return slices.Equal(a.Keys, b.Keys) && slices.Equal(a.Rows, b.Rows) && slices.Equal(a.Kids, b.Kids) && a.Leaf == b.Leaf
}

func same(a, b api.Tree) bool {
	return slices.EqualFunc(a.Nodes, b.Nodes, sameNode) && a.Root == b.Root && slices.Equal(a.Free, b.Free)
}

func cloned(t api.Tree) api.Tree {
	x := with(api.Tree{Root: t.Root}, slices.Clone(t.Free)...)
	for _, n := range t.Nodes {
		x.Nodes = append(x.Nodes, api.Node{Keys: slices.Clone(n.Keys), Rows: slices.Clone(n.Rows), Kids: slices.Clone(n.Kids), Leaf: n.Leaf})
	}
	return x
}

// used is how many nodes there are that are not free.
func used(t api.Tree) int { return len(t.Nodes) - len(t.Free) }

// records are what the leaves of a tree have.
func records(t api.Tree) map[string]int {
	m := map[string]int{}
	for _, n := range t.Nodes {
		for i, row := range n.Rows {
			m[n.Keys[i]] = row
		}
	}
	return m
}

// check holds t to have just the keys and rows of want.
func check(t *testing.T, x api.Tree, want map[string]int) {
	t.Helper()
	checkLists(t, x, want)
	for k, row := range want {
		if n, e := tree.Find(x, k); n != row || e != api.OK {
			t.Fatalf("%q: %d, %v, not %d", k, n, e, row)
		}
	}
	for k := range want {
		for _, near := range []string{k + "\x00", k[:len(k)-1], k[:len(k)-1] + "\x01"} {
			if _, is := want[near]; is || key.Key(near) != api.OK {
				continue
			}
			if n, e := tree.Find(x, near); n != 0 || e != api.ErrNone {
				t.Fatalf("%q, near %q: %d, %v", near, k, n, e)
			}
		}
	}
}

// checkLists asks for no key by itself: it is quicker.
func checkLists(t *testing.T, x api.Tree, want map[string]int) {
	t.Helper()
	if e := tree.Check(x); e != api.OK || !mayBe(x) {
		t.Fatalf("%v, %v: %#v", e, mayBe(x), x)
	}
	var rows []api.Row
	for _, k := range slices.Sorted(maps.Keys(want)) {
		rows = append(rows, api.Row{Key: k, Value: strconv.Itoa(want[k])})
	}
	all, e := tree.All(x)
	if !slices.Equal(all, rows) || e != api.OK {
		t.Fatalf("%v, %v, not %v", all, e, rows)
	}
	count, e := tree.Count(x)
	deep, f := tree.Deep(x)
	if count != len(want) || e != api.OK || deep != levels(x, x.Root) || f != api.OK {
		t.Fatalf("%d, %v, %d, %v: %#v", count, e, deep, f, x)
	}
}

func levels(t api.Tree, n int) int {
	if t.Nodes[n].Leaf {
		return 1
	}
	return 1 + levels(t, t.Nodes[n].Kids[len(t.Nodes[n].Kids)-1])
}

// changed is a copy of records with a key more; gone, one with a key less.
func changed(m map[string]int, k string, row int) map[string]int {
	x := maps.Clone(m)
	x[k] = row
	return x
}

func gone(m map[string]int, k string) map[string]int {
	x := maps.Clone(m)
	delete(x, k)
	return x
}

// P6.1

func TestNew(t *testing.T) {
	x := tree.New()
	if len(x.Nodes) != 1 || !sameNode(x.Nodes[0], leaf()) || x.Root != 0 || len(x.Free) != 0 {
		t.Errorf("%#v", x)
	}
	check(t, x, nil)
	x.Nodes[0] = leaf("a")
	check(t, tree.New(), nil)
}

// The example of the chapter.
func TestAddAndFind(t *testing.T) {
	for _, row := range []int{0, 1, api.MaxNum} {
		x, e := tree.Add(tree.New(), "a", row)
		n, f := tree.Find(x, "a")
		if n != row || e != api.OK || f != api.OK {
			t.Errorf("%d: %d, %v, %v", row, n, e, f)
		}
	}
}

func TestFind(t *testing.T) {
	for k, row := range map[string]int{"a": 1, "b": 2, "d": 1, "e": 2, "f": 1, "g": 2, "h": 3, "i": 4} {
		if n, e := tree.Find(some(), k); n != row || e != api.OK {
			t.Errorf("%q: %d, %v", k, n, e)
		}
	}
	for _, k := range []string{"A", "aa", "c", "cc", "d\x00", "ee", "f\x00", "j", "\x00", "\xff", strings.Repeat("f", api.MaxKey)} {
		if n, e := tree.Find(some(), k); n != 0 || e != api.ErrNone {
			t.Errorf("%q: %d, %v", k, n, e)
		}
	}
	for _, k := range []string{"g", "m", "l", "a", "z"} {
		if n, e := tree.Find(high(), k); n != 0 || e != api.ErrNone {
			t.Errorf("%q: %d, %v", k, n, e)
		}
	}
	check(t, some(), records(some()))
	check(t, high(), records(high()))
	check(t, wide(mostLeaves, 3), records(wide(mostLeaves, 3)))
}

// shapes are trees of all kinds, with room for a key more.
func shapes() []api.Tree {
	l := []api.Tree{tree.New(), some(), high(), with(of(1, api.Node{}, leaf()), 0)}
	for n := range api.Order + 1 {
		l = append(l, one(n))
	}
	for leaves := 2; leaves < 32; leaves += 3 {
		for each := api.Order / 2; each <= api.Order; each++ {
			l = append(l, wide(leaves, each))
		}
	}
	return l
}

func TestAddEverywhere(t *testing.T) {
	for _, x := range shapes() {
		m := records(x)
		for _, k := range append(slices.Collect(maps.Keys(m)), "\x00", "zz") {
			for _, fresh := range []string{k + "\x00", k[:len(k)-1] + string(rune(k[len(k)-1]+1)), k} {
				y, e := tree.Add(x, fresh, 77)
				if _, is := m[fresh]; is {
					if e != api.ErrThere || !isZero(y) {
						t.Fatalf("%q: %v, %#v", fresh, e, y)
					}
					continue
				}
				if e != api.OK {
					t.Fatalf("%q: %v", fresh, e)
				}
				checkLists(t, y, changed(m, fresh, 77))
			}
		}
	}
}

func TestCutEverywhere(t *testing.T) {
	for _, x := range shapes() {
		m := records(x)
		for k := range m {
			y, e := tree.Cut(x, k)
			if e != api.OK {
				t.Fatalf("%q: %v", k, e)
			}
			checkLists(t, y, gone(m, k))
			if n, e := tree.Find(y, k); n != 0 || e != api.ErrNone {
				t.Fatalf("%q is there still: %d, %v", k, n, e)
			}
			if _, e := tree.Cut(y, k); e != api.ErrNone {
				t.Fatalf("%q twice: %v", k, e)
			}
			z, e := tree.Cut(x, k+"\x00")
			if !isZero(z) || e != api.ErrNone {
				t.Fatalf("near %q: %#v, %v", k, z, e)
			}
		}
	}
	if x, e := tree.Cut(tree.New(), "a"); !isZero(x) || e != api.ErrNone {
		t.Errorf("of none: %#v, %v", x, e)
	}
}

func TestRowsOfAnyNumber(t *testing.T) {
	for _, row := range []int{0, 1, api.MaxNum - 1, api.MaxNum} {
		x, e := tree.Add(some(), "cc", row)
		if e != api.OK {
			t.Fatalf("%d: %v", row, e)
		}
		check(t, x, changed(records(some()), "cc", row))
	}
}

func TestKeysOfAnyLength(t *testing.T) {
	x, m := tree.New(), map[string]int{}
	for n := 1; n <= api.MaxKey; n++ {
		for _, s := range []string{"\x00", "k", "\xff"} {
			k := strings.Repeat(s, n)
			y, e := tree.Add(x, k, n)
			if e != api.OK {
				t.Fatalf("%q: %v", k, e)
			}
			x, m = y, changed(m, k, n)
			check(t, x, m)
		}
	}
}

// A node more: the limit

// As many keys as there may be: no node could be left out.
func TestFull(t *testing.T) {
	x := wide(mostLeaves, api.Order)
	if used(x) != api.MaxNodes {
		t.Fatalf("%d nodes", used(x))
	}
	m := records(x)
	checkLists(t, x, m)
	for k := range m {
		for _, e := range []struct {
			k    string
			row  int
			want api.Errno
		}{{k + "\x00", 1, api.ErrFull}, {k, 1, api.ErrThere}, {k, -1, api.ErrForm}, {k + "\x00", api.MaxNum + 1, api.ErrForm}} {
			if y, got := tree.Add(x, e.k, e.row); !isZero(y) || got != e.want {
				t.Fatalf("%q, %d: %#v, %v, not %v", e.k, e.row, y, got, e.want)
			}
		}
	}
	for _, k := range []string{"a", "z"} {
		if y, e := tree.Add(x, k, 1); !isZero(y) || e != api.ErrFull {
			t.Fatalf("%q: %#v, %v", k, y, e)
		}
	}
	for k, row := range m {
		y, e := tree.Cut(x, k)
		if e != api.OK {
			t.Fatalf("%q: %v", k, e)
		}
		if z, e := tree.Add(y, k, row); e != api.OK || tree.Check(z) != api.OK {
			t.Fatalf("%q again: %v", k, e)
		}
	}
}

// All nodes are there, but the leaves have room.
func TestNoNodeMoreIsNeeded(t *testing.T) {
	for _, each := range []int{2, 3} {
		x := wide(mostLeaves, each)
		m := records(x)
		for _, n := range x.Nodes {
			if !n.Leaf {
				continue
			}
			k := n.Keys[each-1] + "\x00"
			y, e := tree.Add(x, k, 5)
			if e != api.OK || used(y) != api.MaxNodes {
				t.Fatalf("%d, %q: %v", each, k, e)
			}
			checkLists(t, y, changed(m, k, 5))
		}
	}
}

// needed is how many nodes more it takes at most to part what is full where k
// would come.
func needed(t api.Tree, k string) int {
	n := t.Root
	for full := 0; ; {
		node := t.Nodes[n]
		full++
		if len(node.Keys) < api.Order {
			full = 0
		} else if n == t.Root {
			full++
		}
		if node.Leaf {
			return full
		}
		at := 0
		for at < len(node.Keys) && node.Keys[at] <= k {
			at++
		}
		n = node.Kids[at]
	}
}

// withRoom is x with so many free nodes more.
func withRoom(x api.Tree, free int) api.Tree {
	x = cloned(x)
	for range free {
		x.Free = append(x.Free, len(x.Nodes))
		x.Nodes = append(x.Nodes, api.Node{})
	}
	return x
}

// As many as are left, and one less than that.
func TestNodesThatAreLeft(t *testing.T) {
	told := map[api.Errno]int{}
	for leaves := mostLeaves - 9; leaves <= mostLeaves; leaves++ {
		for free := range 3 {
			x := withRoom(wide(leaves, api.Order), free)
			if len(x.Nodes) > api.MaxNodes {
				continue
			}
			for _, n := range x.Nodes {
				if !n.Leaf {
					continue
				}
				k := n.Keys[1] + "\x00"
				y, e := tree.Add(x, k, 5)
				told[e]++
				if e != api.OK && (e != api.ErrFull || !isZero(y)) || e == api.ErrFull && used(x)+needed(x, k) <= api.MaxNodes {
					t.Fatalf("%d leaves, %d free, %q: %v, %d are needed", leaves, free, k, e, needed(x, k))
				}
				if e == api.OK && (tree.Check(y) != api.OK || used(y) > api.MaxNodes) {
					t.Fatalf("%d leaves, %d free, %q: %v, %d nodes", leaves, free, k, tree.Check(y), used(y))
				}
			}
		}
	}
	if told[api.OK] < 500 || told[api.ErrFull] < 500 {
		t.Errorf("not both: %v", told)
	}
}

// Nodes that are free are taken, where there are as many as there may be.
func TestFreeNodesAreTaken(t *testing.T) {
	x := of(api.MaxNodes-1, make([]api.Node, api.MaxNodes)...)
	x.Nodes[x.Root] = leaf(upTo(api.Order, 10)...)
	for n := range x.Root {
		x.Free = append(x.Free, n)
	}
	m := records(x)
	for i := range 100 {
		k := num(10*i + 5)
		y, e := tree.Add(x, k, i)
		if e != api.OK || len(y.Nodes) != api.MaxNodes {
			t.Fatalf("%d: %v, %d nodes", i, e, len(y.Nodes))
		}
		m = changed(m, k, i)
		x = y
		checkLists(t, x, m)
	}
}

// A tree that is full in its own way takes whatever needs no node more, and
// lets all go again.
func TestUpToFull(t *testing.T) {
	for name, order := range orders() {
		x, m := tree.New(), map[string]int{}
		for i, k := range order(1000) {
			y, e := tree.Add(x, k, i)
			if e == api.ErrFull {
				break
			}
			x = y
			m[k] = i
		}
		if len(m) < api.MaxNodes || len(m) > mostLeaves*api.Order {
			t.Fatalf("%s: %d keys", name, len(m))
		}
		check(t, x, m)
		for _, n := range x.Nodes {
			if n.Leaf && len(n.Keys) < api.Order {
				if _, e := tree.Add(x, n.Keys[0]+"\x00", 1); e != api.OK {
					t.Fatalf("%s, %v: %v", name, n.Keys, e)
				}
			}
		}
		for k := range maps.Clone(m) {
			y, e := tree.Cut(x, k)
			delete(m, k)
			if e != api.OK || len(m)%20 == 0 && tree.Check(y) != api.OK {
				t.Fatalf("%s, %q: %v", name, k, e)
			}
			x = y
		}
		check(t, x, nil)
	}
}

// P6.2

func TestAllCountDeep(t *testing.T) {
	row := func(k, v string) api.Row { return api.Row{Key: k, Value: v} }
	for i, c := range []struct {
		x    api.Tree
		all  []api.Row
		deep int
	}{
		{tree.New(), nil, 1},
		{with(of(1, api.Node{}, leaf("a")), 0), []api.Row{row("a", "1")}, 1},
		{of(0, api.Node{Leaf: true, Keys: []string{"a", "b", "c"}, Rows: []int{api.MaxNum, 0, 10}}), []api.Row{row("a", "1073741824"), row("b", "0"), row("c", "10")}, 1},
		{some(), []api.Row{row("a", "1"), row("b", "2"), row("d", "1"), row("e", "2"), row("f", "1"), row("g", "2"), row("h", "3"), row("i", "4")}, 2},
		{high(), []api.Row{row("b", "1"), row("c", "2"), row("d", "1"), row("e", "2"), row("h", "1"), row("i", "2"), row("j", "1"), row("k", "2"), row("n", "1"), row("o", "2"), row("p", "1"), row("q", "2")}, 3},
	} {
		all, e := tree.All(c.x)
		count, f := tree.Count(c.x)
		deep, g := tree.Deep(c.x)
		if !slices.Equal(all, c.all) || e != api.OK || count != len(c.all) || f != api.OK || deep != c.deep || g != api.OK {
			t.Errorf("%d: %v, %v, %d, %v, %d, %v", i, all, e, count, f, deep, g)
		}
	}
	for leaves, deep := range map[int]int{1: 1, 2: 2, 5: 2, 6: 3, 25: 3, 26: 4, 125: 4, 126: 5, mostLeaves: 5} {
		if n, e := tree.Deep(wide(leaves, 2)); n != deep || e != api.OK {
			t.Errorf("%d leaves: %d, %v", leaves, n, e)
		}
		if n, e := tree.Count(wide(leaves, 3)); n != 3*leaves || e != api.OK {
			t.Errorf("%d leaves: %d, %v", leaves, n, e)
		}
	}
}

// P6.3

// orders tell ways in which n keys may come or go.
func orders() map[string]func(n int) []string {
	ends := func(n int) []string {
		l := upTo(n, 10)
		var both []string
		for i := range n {
			both = append(both, l[[]int{i / 2, n - 1 - i/2}[i%2]])
		}
		return both
	}
	reversed := func(give func(int) []string) func(int) []string {
		return func(n int) []string {
			l := give(n)
			slices.Reverse(l)
			return l
		}
	}
	rising := func(n int) []string { return upTo(n, 10) }
	return map[string]func(n int) []string{
		"rising": rising, "falling": reversed(rising), "both ends": ends, "from the middle": reversed(ends),
		"shuffled": func(n int) []string {
			l, next := upTo(n, 10), draws(3)
			for i := range l {
				k := next(i + 1)
				l[i], l[k] = l[k], l[i]
			}
			return l
		},
	}
}

// draws tells numbers that are the same in each run.
func draws(seed uint32) func(below int) int {
	return func(below int) int {
		seed = seed*1664525 + 1013904223
		return int(seed>>16) % below
	}
}

func TestKeysComeAndGo(t *testing.T) {
	const many = 90
	for name, come := range orders() {
		for other, leave := range orders() {
			x, m := tree.New(), map[string]int{}
			for i, k := range come(many) {
				y, e := tree.Add(x, k, i)
				if e != api.OK {
					t.Fatalf("%s, %q: %v", name, k, e)
				}
				m[k] = i
				x = y
				checkLists(t, x, m)
			}
			check(t, x, m)
			for _, k := range leave(many) {
				y, e := tree.Cut(x, k)
				if e != api.OK {
					t.Fatalf("%s, %s, %q: %v", name, other, k, e)
				}
				delete(m, k)
				x = y
				checkLists(t, x, m)
			}
			if n, e := tree.Deep(x); n != 1 || e != api.OK || used(x) != 1 {
				t.Errorf("%s, %s: %d, %v, %d nodes", name, other, n, e, used(x))
			}
		}
	}
}

// A walk by numbers: keys come and go, more of them and fewer again.
func TestItHasWhatWasAddedAndNotCut(t *testing.T) {
	next := draws(1)
	x, m := tree.New(), map[string]int{}
	told := map[string]int{}
	for i := range 3000 {
		k, row := num(next(260)), next(api.MaxNum+1)
		_, is := m[k]
		adds := next(10) < []int{8, 5, 2, 5}[i/250%4]
		var y api.Tree
		var e, want api.Errno
		what := "cut"
		if adds {
			what = "add"
			y, e = tree.Add(x, k, row)
			if is {
				want = api.ErrThere
			}
		} else {
			y, e = tree.Cut(x, k)
			if !is {
				want = api.ErrNone
			}
		}
		if e != want || e != api.OK && !isZero(y) {
			t.Fatalf("%d: %s, %q: %v, not %v", i, what, k, e, want)
		}
		told[what+[]string{"", "", "", " none", " there"}[e]]++
		if e != api.OK {
			continue
		}
		if m = gone(m, k); adds {
			m[k] = row
		}
		x = y
		checkLists(t, x, m)
		if i%50 == 0 {
			check(t, x, m)
		}
	}
	for _, what := range []string{"add", "add there", "cut", "cut none"} {
		if told[what] < 300 {
			t.Errorf("the walk is not one of all: %v", told)
		}
	}
}
