package tree_test

import (
	"math"
	"slices"
	"strings"
	"testing"

	"quorum/api"
	"quorum/key"
	"quorum/tree"
)

// below are all keys of a node and of what is below it; seen counts how often
// each node is come to, and it goes on behind none twice.
func below(t api.Tree, n int, seen map[int]int) []string {
	if n < 0 || n >= len(t.Nodes) {
		seen[-1]++
		return nil
	}
	seen[n]++
	if seen[n] > 1 {
		return nil
	}
	l := slices.Clone(t.Nodes[n].Keys)
	for _, kid := range t.Nodes[n].Kids {
		l = append(l, below(t, kid, seen)...)
	}
	return l
}

func depths(t api.Tree, n, at int, told map[int]int) {
	if t.Nodes[n].Leaf {
		told[at]++
	}
	for _, kid := range t.Nodes[n].Kids {
		depths(t, kid, at+1, told)
	}
}

// mayBe by the words of the chapter, one behind the other.
func mayBe(t api.Tree) bool {
	if len(t.Nodes) > api.MaxNodes || t.Root < 0 || t.Root >= len(t.Nodes) {
		return false
	}
	seen := map[int]int{}
	below(t, t.Root, seen)
	for i, n := range t.Free {
		if n < 0 || n >= len(t.Nodes) || !sameNode(t.Nodes[n], api.Node{}) || seen[n] > 0 || i > 0 && t.Free[i-1] >= n {
			return false
		}
	}
	for n := range t.Nodes {
		if !slices.Contains(t.Free, n) && (seen[n] != 1 || !nodeMayBe(t, n)) {
			return false
		}
	}
	if seen[-1] > 0 {
		return false
	}
	told := map[int]int{}
	depths(t, t.Root, 0, told)
	return len(told) == 1
}

func nodeMayBe(t api.Tree, at int) bool {
	n := t.Nodes[at]
	if len(n.Keys) > api.Order || at != t.Root && len(n.Keys) < api.Order/2 || !slices.IsSorted(n.Keys) || len(slices.Compact(slices.Clone(n.Keys))) != len(n.Keys) {
		return false
	}
	if n.Leaf {
		for i, row := range n.Rows {
			if row < 0 || row > api.MaxNum || i >= len(n.Keys) || key.Key(n.Keys[i]) != api.OK {
				return false
			}
		}
		return len(n.Rows) == len(n.Keys) && len(n.Kids) == 0
	}
	if len(n.Rows) > 0 || len(n.Keys) == 0 || len(n.Kids) != len(n.Keys)+1 {
		return false
	}
	for i, bound := range n.Keys {
		for k, kid := range n.Kids {
			for _, x := range below(t, kid, map[int]int{}) {
				if (x < bound) != (k <= i) {
					return false
				}
			}
		}
	}
	return true
}

func TestTreesThatMayBe(t *testing.T) {
	long := strings.Repeat("c", 1000)
	for i, x := range append(shapes(),
		with(some(), 1, 4), of(0, leaf(strings.Repeat("k", api.MaxKey))), of(0, leaf("\x00", "\xff")),
		of(2, leaf("a", "b"), leaf("d", "e"), inner([]string{"c"}, 0, 1)), of(2, leaf("a", "b"), leaf("d", "e"), inner([]string{"d"}, 0, 1)), of(2, leaf("a", "b"), leaf("d", "e"), inner([]string{"b\x00"}, 0, 1)),
		of(2, leaf("a", "b"), leaf("d", "e"), inner([]string{long}, 0, 1)), of(0, inner([]string{"c"}, 2, 1), leaf("d", "e"), leaf("a", "b")),
		of(0, api.Node{Leaf: true, Keys: []string{"a", "b"}, Rows: []int{0, 0}}), of(0, api.Node{Leaf: true, Keys: []string{"a", "b"}, Rows: []int{api.MaxNum, 0}}),
		of(0, inner([]string{"c", "e", "g", "i"}, 1, 2, 3, 4, 5), leaf("a", "b"), leaf("c", "d"), leaf("e", "f"), leaf("g", "h"), leaf("i", "j")),
		with(of(0, append([]api.Node{leaf("a")}, make([]api.Node, 2)...)...), 1, 2),
		of(0, api.Node{Leaf: true, Keys: []string{}, Rows: []int{}, Kids: []int{}}), with(of(1, api.Node{Keys: []string{}, Rows: []int{}, Kids: []int{}}, leaf("a")), 0),
		of(2, api.Node{Leaf: true, Keys: []string{"a", "b"}, Rows: []int{0, 0}, Kids: []int{}}, leaf("d", "e"), api.Node{Keys: []string{"c"}, Rows: []int{}, Kids: []int{0, 1}}),
		wide(mostLeaves, 2), wide(mostLeaves, 4), wide(mostLeaves-1, 3), withRoom(tree.New(), api.MaxNodes-1), withRoom(wide(mostLeaves-1, 2), 1),
	) {
		if e := tree.Check(x); e != api.OK || !mayBe(x) {
			t.Fatalf("%d: %v, %v", i, e, mayBe(x))
		}
		check(t, x, records(x))
	}
}

// turned is some with one thing in it changed.
func turned(turn func(x *api.Tree)) api.Tree {
	x := some()
	turn(&x)
	return x
}

func turns() []func(x *api.Tree) {
	return []func(x *api.Tree){
		func(x *api.Tree) { x.Root = -1 }, func(x *api.Tree) { x.Root = 6 }, func(x *api.Tree) { x.Root = math.MinInt }, func(x *api.Tree) { x.Root = math.MaxInt },
		func(x *api.Tree) { x.Root = 0 }, func(x *api.Tree) { x.Root = 1 }, func(x *api.Tree) { x.Root = 2 },
		func(x *api.Tree) { x.Free = nil }, func(x *api.Tree) { x.Free = []int{1} }, func(x *api.Tree) { x.Free = []int{4} }, func(x *api.Tree) { x.Free = []int{4, 1} }, func(x *api.Tree) { x.Free = []int{1, 1} },
		func(x *api.Tree) { x.Free = []int{1, 1, 4} }, func(x *api.Tree) { x.Free = []int{1, 4, 4} }, func(x *api.Tree) { x.Free = []int{1, 4, 1} }, func(x *api.Tree) { x.Free = []int{1, 4, 6} }, func(x *api.Tree) { x.Free = []int{-1, 1, 4} },
		func(x *api.Tree) { x.Free = []int{1, 4, 5} }, func(x *api.Tree) { x.Free = []int{0, 1, 4} }, func(x *api.Tree) { x.Free = []int{1, 3, 4} }, func(x *api.Tree) { x.Free = []int{math.MinInt, 1, 4} }, func(x *api.Tree) { x.Free = []int{1, 4, math.MaxInt} },
		func(x *api.Tree) { x.Nodes[1].Leaf = true }, func(x *api.Tree) { x.Nodes[1].Keys = []string{"z"} }, func(x *api.Tree) { x.Nodes[1].Keys = []string{""} }, func(x *api.Tree) { x.Nodes[4].Rows = []int{0} }, func(x *api.Tree) { x.Nodes[4].Kids = []int{0} }, func(x *api.Tree) { x.Nodes[4] = leaf("x", "y") },
		func(x *api.Tree) { x.Nodes = append(x.Nodes, leaf("x", "y")) }, func(x *api.Tree) { x.Nodes = append(x.Nodes, api.Node{}) }, func(x *api.Tree) { x.Nodes = append(x.Nodes, inner([]string{"c"}, 6, 6)) }, func(x *api.Tree) { x.Nodes = x.Nodes[:5] }, func(x *api.Tree) { x.Nodes = nil },
		func(x *api.Tree) { x.Nodes[3].Kids = []int{0, 5, 5} }, func(x *api.Tree) { x.Nodes[3].Kids = []int{0, 0, 2} }, func(x *api.Tree) { x.Nodes[3].Kids = []int{0, 3, 2} }, func(x *api.Tree) { x.Nodes[3].Kids = []int{0, 1, 2} }, func(x *api.Tree) { x.Nodes[3].Kids = []int{0, 6, 2} }, func(x *api.Tree) { x.Nodes[3].Kids = []int{0, -1, 2} }, func(x *api.Tree) { x.Nodes[3].Kids = []int{0, math.MaxInt, 2} }, func(x *api.Tree) { x.Nodes[3].Kids = []int{math.MinInt, 5, 2} },
		func(x *api.Tree) { x.Nodes[3].Kids = []int{5, 0, 2} }, func(x *api.Tree) { x.Nodes[3].Kids = []int{0, 5} }, func(x *api.Tree) { x.Nodes[3].Kids = []int{0, 5, 2, 2} }, func(x *api.Tree) { x.Nodes[3].Kids = nil }, func(x *api.Tree) { x.Nodes[3].Rows = []int{1, 2} }, func(x *api.Tree) { x.Nodes[3].Rows = []int{0} }, func(x *api.Tree) { x.Nodes[3].Leaf = true },
		func(x *api.Tree) { x.Nodes[3].Keys = []string{"c"} }, func(x *api.Tree) { x.Nodes[3].Keys = nil }, func(x *api.Tree) { x.Nodes[3].Keys = []string{"f", "c"} }, func(x *api.Tree) { x.Nodes[3].Keys = []string{"c", "c"} }, func(x *api.Tree) { x.Nodes[3].Keys = []string{"c", "d"} }, func(x *api.Tree) { x.Nodes[3].Keys = []string{"c", "f\x00"} }, func(x *api.Tree) { x.Nodes[3].Keys = []string{"b", "f"} }, func(x *api.Tree) { x.Nodes[3].Keys = []string{"d\x00", "f"} }, func(x *api.Tree) { x.Nodes[3].Keys = []string{"c", "e"} }, func(x *api.Tree) { x.Nodes[3].Keys = []string{"", "f"} },
		func(x *api.Tree) { x.Nodes[0] = leaf("a") }, func(x *api.Tree) { x.Nodes[0] = leaf() }, func(x *api.Tree) { x.Nodes[2] = leaf("f", "g", "h", "i", "j") }, func(x *api.Tree) { x.Nodes[5] = leaf("d") }, func(x *api.Tree) { x.Nodes[5] = api.Node{} },
		func(x *api.Tree) { x.Nodes[0] = leaf("b", "a") }, func(x *api.Tree) { x.Nodes[0] = leaf("a", "a") }, func(x *api.Tree) { x.Nodes[2] = leaf("f", "h", "g", "i") }, func(x *api.Tree) { x.Nodes[2] = leaf("f", "g", "h", "h") },
		func(x *api.Tree) { x.Nodes[0] = leaf("a", "c") }, func(x *api.Tree) { x.Nodes[0] = leaf("a", "z") }, func(x *api.Tree) { x.Nodes[5] = leaf("bb", "d") }, func(x *api.Tree) { x.Nodes[5] = leaf("d", "f") }, func(x *api.Tree) { x.Nodes[2] = leaf("e\xff", "g") }, func(x *api.Tree) { x.Nodes[2] = leaf("a", "g") },
		func(x *api.Tree) { x.Nodes[0] = leaf("", "b") }, func(x *api.Tree) { x.Nodes[2] = leaf("f", strings.Repeat("g", api.MaxKey+1)) },
		func(x *api.Tree) { x.Nodes[0].Rows[0] = -1 }, func(x *api.Tree) { x.Nodes[2].Rows[3] = api.MaxNum + 1 }, func(x *api.Tree) { x.Nodes[5].Rows[1] = math.MinInt }, func(x *api.Tree) { x.Nodes[5].Rows[0] = math.MaxInt },
		func(x *api.Tree) { x.Nodes[0].Rows = []int{1} }, func(x *api.Tree) { x.Nodes[0].Rows = []int{1, 2, 3} }, func(x *api.Tree) { x.Nodes[0].Rows = nil }, func(x *api.Tree) { x.Nodes[0].Kids = []int{1} }, func(x *api.Tree) { x.Nodes[2].Kids = []int{0, 1, 3, 4, 5} }, func(x *api.Tree) { x.Nodes[0].Leaf = false },
	}
}

func badTrees() []api.Tree {
	unlike := high()
	unlike.Nodes[1] = leaf("b", "c", "d", "e")
	unlike = with(unlike, 3, 4, 5)
	unlike.Nodes[3], unlike.Nodes[4], unlike.Nodes[5] = api.Node{}, api.Node{}, api.Node{}
	thin := high()
	thin.Nodes[1] = inner([]string{"d"}, 3, 4)
	thin.Nodes[5] = api.Node{}
	far := high()
	far.Nodes[3] = leaf("b", "j")
	near := high()
	near.Nodes[6] = leaf("i\xff", "k")
	bound := high()
	bound.Nodes[2].Keys[0] = "j"
	over := high()
	over.Nodes[1].Keys[1] = "j"
	l := []api.Tree{
		unlike, with(thin, 5), far, near, bound, over, {}, {Nodes: []api.Node{}}, of(0, api.Node{}), with(of(0, api.Node{}), 0), of(0, api.Node{Kids: []int{0}}), of(0, inner(nil, 1), leaf("a", "b")),
		of(1, leaf("a", "b"), inner(nil, 0)), of(0, inner([]string{"a"}, 0, 0)), of(0, inner([]string{"c"}, 1, 2), leaf("a", "b"), inner([]string{"d"}, 0, 1)),
		of(0, leaf("a", "b", "c", "d", "e")), of(0, leaf(upTo(1000, 1)...)), of(0, inner([]string{"c", "e", "g", "i", "k"}, 1, 2, 3, 4, 5, 6), leaf("a", "b"), leaf("c", "d"), leaf("e", "f"), leaf("g", "h"), leaf("i", "j"), leaf("k", "l")),
		of(0, inner([]string{"c"}, make([]int, 1<<20)...), leaf("a", "b")), of(0, api.Node{Leaf: true, Rows: make([]int, 1<<20)}), with(tree.New(), make([]int, 1<<20)...), with(tree.New(), 0), with(tree.New(), 1), with(tree.New(), -1),
		wide(mostLeaves+1, 2), wide(mostLeaves+1, 4), wide(2*mostLeaves, 3), withRoom(wide(mostLeaves, 2), 1), of(0, append([]api.Node{leaf("a")}, make([]api.Node, 1<<20)...)...),
	}
	l = append(l, withRoom(tree.New(), api.MaxNodes))
	for _, turn := range turns() {
		l = append(l, turned(turn))
	}
	return l
}

type errnos struct{ check, find, add, cut, all, count, deep api.Errno }

func allForm() errnos {
	return errnos{api.ErrForm, api.ErrForm, api.ErrForm, api.ErrForm, api.ErrForm, api.ErrForm, api.ErrForm}
}

// ask calls each one, and holds what is beside an error to be zero.
func ask(t *testing.T, x api.Tree, k string, row int) errnos {
	t.Helper()
	n, find := tree.Find(x, k)
	more, add := tree.Add(x, k, row)
	less, cut := tree.Cut(x, k)
	rows, all := tree.All(x)
	many, count := tree.Count(x)
	far, deep := tree.Deep(x)
	if find != api.OK && n != 0 || add != api.OK && !isZero(more) || cut != api.OK && !isZero(less) ||
		all != api.OK && len(rows) > 0 || count != api.OK && many != 0 || deep != api.OK && far != 0 {
		t.Errorf("%q, %d: beside an error: %d, %#v, %#v, %v, %d, %d", k, row, n, more, less, rows, many, far)
	}
	return errnos{tree.Check(x), find, add, cut, all, count, deep}
}

// R4: ErrForm stands ahead of ErrThere and of ErrNone.
func TestTreesThatMayNotBe(t *testing.T) {
	for i, x := range badTrees() {
		if mayBe(x) {
			t.Errorf("%d may be", i)
		}
		for _, k := range []string{"a", "b", "q", "", strings.Repeat("a", api.MaxKey+1)} {
			for _, row := range []int{0, -1, api.MaxNum + 1} {
				if e := ask(t, x, k, row); e != allForm() {
					t.Errorf("%d, %q, %d: %v", i, k, row, e)
				}
			}
		}
	}
}

// What a text that is no key, and a row out of its bounds, tell of trees that
// may be.
func TestKeysAndRowsThatMayNotBe(t *testing.T) {
	for i, x := range append(shapes(), wide(mostLeaves, api.Order)) {
		for _, k := range []string{"", strings.Repeat("k", api.MaxKey+1), strings.Repeat("\x00", 1<<20)} {
			if e := ask(t, x, k, 1); e != (errnos{find: api.ErrForm, add: api.ErrForm, cut: api.ErrForm}) {
				t.Errorf("%d, %d bytes: %v", i, len(k), e)
			}
		}
		for k := range records(x) {
			for _, row := range []int{-1, api.MaxNum + 1, math.MinInt, math.MaxInt} {
				_, there := tree.Add(x, k, row)
				_, fresh := tree.Add(x, k+"\x00", row)
				if there != api.ErrForm || fresh != api.ErrForm {
					t.Errorf("%d, %q, %d: %v, %v", i, k, row, there, fresh)
				}
			}
		}
	}
	if e := ask(t, some(), "a", 1); e != (errnos{add: api.ErrThere}) {
		t.Errorf("a key that is there: %v", e)
	}
	if e := ask(t, some(), "c", 1); e != (errnos{find: api.ErrNone, cut: api.ErrNone}) {
		t.Errorf("a key that is not there: %v", e)
	}
}

// mangled is x with one thing changed at a place that is drawn.
func mangled(x api.Tree, next func(below int) int) api.Tree {
	x = cloned(x)
	near := func(l *[]int) {
		at := next(len(*l) + 1)
		switch {
		case at == len(*l):
			*l = append(*l, next(len(x.Nodes)+2)-1)
		case next(3) == 0:
			*l = slices.Delete(*l, at, at+1)
		default:
			(*l)[at] = next(len(x.Nodes)+2) - 1
		}
	}
	n := &x.Nodes[next(len(x.Nodes))]
	switch next(9) {
	case 0:
		x.Root = next(len(x.Nodes)+2) - 1
	case 1:
		near(&x.Free)
	case 2:
		near(&n.Kids)
	case 3:
		near(&n.Rows)
	case 4:
		n.Leaf = !n.Leaf
	case 5:
		*n = leaf("x", "y")
	case 6:
		if len(n.Keys) > 0 {
			at := next(len(n.Keys))
			n.Keys = slices.Delete(n.Keys, at, at+1)
		}
	default:
		if len(n.Keys) > 0 {
			n.Keys[next(len(n.Keys))] = string(rune('a'+next(18))) + []string{"", "\x00", "\xff"}[next(3)]
		}
	}
	return x
}

// Check held against the words of the chapter.
func TestMangledTrees(t *testing.T) {
	next := draws(5)
	told := map[bool]int{}
	for range 20000 {
		x := []api.Tree{some(), high(), one(3), of(2, leaf("a", "b"), leaf("d", "e"), inner([]string{"c"}, 0, 1))}[next(4)]
		x = mangled(x, next)
		if next(4) == 0 {
			x = mangled(x, next)
		}
		is := mayBe(x)
		told[is]++
		if e := tree.Check(x); is != (e == api.OK) || !is && e != api.ErrForm {
			t.Fatalf("%v, %v: %#v", is, e, x)
		}
	}
	if told[true] < 1000 || told[false] < 1000 {
		t.Errorf("not both: %v", told)
	}
}

// R2

const mark = 77777

// roomy is x with spare room behind the end of each list, with marks in it.
func roomy(x api.Tree) api.Tree {
	x = cloned(x)
	for i := range x.Nodes {
		n := &x.Nodes[i]
		n.Keys = append(n.Keys, "mark", "mark")[:len(n.Keys)]
		n.Rows = append(n.Rows, mark, mark)[:len(n.Rows)]
		n.Kids = append(n.Kids, mark, mark)[:len(n.Kids)]
	}
	x.Nodes = append(x.Nodes, leaf("mark"), leaf("mark"))[:len(x.Nodes)]
	x.Free = append(x.Free, mark, mark)[:len(x.Free)]
	return x
}

func isMarked(l []int) bool {
	return slices.Equal(l[len(l):len(l)+2], []int{mark, mark})
}

// isAsItWas tells whether roomy made x of was, and nobody wrote into it.
func isAsItWas(x, was api.Tree) bool {
	for _, n := range x.Nodes {
		if !isMarked(n.Rows) || !isMarked(n.Kids) || !slices.Equal(n.Keys[len(n.Keys):len(n.Keys)+2], []string{"mark", "mark"}) {
			return false
		}
	}
	for _, n := range x.Nodes[len(x.Nodes) : len(x.Nodes)+2] {
		if !sameNode(n, leaf("mark")) {
			return false
		}
	}
	return isMarked(x.Free) && same(x, was)
}

// scribble writes into all that x has, and into its spare room.
func scribble(x api.Tree) {
	for _, n := range x.Nodes {
		fill(n.Keys, "written")
		fill(n.Rows, 88)
		fill(n.Kids, 88)
	}
	fill(x.Nodes, leaf("written"))
	fill(x.Free, 88)
}

func fill[T any](l []T, x T) {
	l = l[:cap(l)]
	for i := range l {
		l[i] = x
	}
}

// answers shows a tree that roomy made, and what Add and Cut tell of it.
func answers(t *testing.T, show func(x, was api.Tree, call func() (api.Tree, api.Errno))) {
	for _, was := range []api.Tree{tree.New(), one(1), one(2), one(api.Order), some(), high(), wide(5, 4), wide(7, 2), wide(25, 4), wide(mostLeaves, 3)} {
		keys := []string{"a0", "z"}
		for k := range records(was) {
			keys = append(keys, k, k+"\x00")
		}
		slices.Sort(keys)
		if len(keys) > 30 {
			keys = slices.Concat(keys[:10], keys[len(keys)/2:len(keys)/2+10], keys[len(keys)-10:])
		}
		for _, k := range keys {
			x := roomy(was)
			show(x, was, func() (api.Tree, api.Errno) { return tree.Add(x, k, 5) })
			show(x, was, func() (api.Tree, api.Errno) { return tree.Cut(x, k) })
		}
	}
}

func TestHandedInStaysAsItIs(t *testing.T) {
	answers(t, func(x, was api.Tree, call func() (api.Tree, api.Errno)) {
		call()
		ask(t, x, "k", 1)
		if !isAsItWas(x, was) {
			t.Fatalf("%#v, not %#v", x, was)
		}
	})
	for _, bad := range badTrees() {
		if len(bad.Nodes) > 1000 {
			continue
		}
		x := roomy(bad)
		ask(t, x, "a", 1)
		if !isAsItWas(x, bad) {
			t.Fatalf("%#v, not %#v", x, bad)
		}
	}
}

func TestAnswersAreCopies(t *testing.T) {
	answers(t, func(x, was api.Tree, call func() (api.Tree, api.Errno)) {
		first, e := call()
		again, f := call()
		then := cloned(again)
		scribble(first)
		if e != f || !same(again, then) || !isAsItWas(x, was) {
			t.Fatalf("%v, %v: %#v, not %#v", e, f, again, then)
		}
	})
	x := roomy(some())
	all, _ := tree.All(x)
	fill(all, api.Row{Key: "written"})
	fill(tree.New().Nodes, leaf("written"))
	if !isAsItWas(x, some()) {
		t.Errorf("%#v", x)
	}
	check(t, x, records(some()))
	check(t, tree.New(), nil)
}

// Whoever writes into one list of an answer, or behind its end, changes no
// other one.
func TestListsOfAnAnswerShareNothing(t *testing.T) {
	answers(t, func(x, was api.Tree, call func() (api.Tree, api.Errno)) {
		told, _ := call()
		then := cloned(told)
		for i := range told.Nodes {
			n := &told.Nodes[i]
			fill(n.Keys, "written")
			n.Keys = then.Nodes[i].Keys
			fill(n.Rows, 88)
			n.Rows = then.Nodes[i].Rows
			fill(n.Kids, 88)
			n.Kids = then.Nodes[i].Kids
			if !same(told, then) {
				t.Fatalf("%d: %#v, not %#v", i, told, then)
			}
		}
		fill(told.Free, 88)
		told.Free = then.Free
		if !same(told, then) {
			t.Fatalf("%#v, not %#v", told, then)
		}
	})
}

// A list that is nil and one that is empty.
func TestNilAndEmptyAreOne(t *testing.T) {
	for _, x := range []api.Tree{
		{Nodes: []api.Node{{Leaf: true}}}, {Nodes: []api.Node{{Leaf: true, Keys: []string{}, Rows: []int{}, Kids: []int{}}}, Free: []int{}},
		{Nodes: []api.Node{{Leaf: true}, {}}, Free: []int{1}}, {Nodes: []api.Node{{Leaf: true}, {Keys: []string{}, Rows: []int{}, Kids: []int{}}}, Free: []int{1}},
	} {
		if e := ask(t, x, "a", 1); e != (errnos{find: api.ErrNone, cut: api.ErrNone}) {
			t.Errorf("%v", e)
		}
		y, e := tree.Add(x, "a", 1)
		if e != api.OK {
			t.Fatalf("%v", e)
		}
		check(t, y, map[string]int{"a": 1})
	}
	for _, x := range []api.Tree{{}, {Nodes: []api.Node{}, Free: []int{}}} {
		if e := ask(t, x, "a", 1); e != allForm() {
			t.Errorf("%v", e)
		}
	}
}
