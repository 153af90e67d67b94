package tree

import (
	"slices"

	"quorum/api"
)

// What follows changes a tree in place: it is called with one that copied made,
// whose lists nobody else has.

func copied(t api.Tree) api.Tree {
	x := api.Tree{Root: t.Root, Free: slices.Clone(t.Free)}
	for _, n := range t.Nodes {
		n.Keys, n.Rows, n.Kids = slices.Clone(n.Keys), slices.Clone(n.Rows), slices.Clone(n.Kids)
		x.Nodes = append(x.Nodes, n)
	}
	return x
}

func put(leaf *api.Node, at int, k string, row int) {
	leaf.Keys = slices.Insert(leaf.Keys, at, k)
	leaf.Rows = slices.Insert(leaf.Rows, at, row)
}

func take(leaf *api.Node, at int) {
	leaf.Keys = slices.Delete(leaf.Keys, at, at+1)
	leaf.Rows = slices.Delete(leaf.Rows, at, at+1)
}

// splitUp mends what a key more made too great, from the leaf up. It may make
// nodes too many: whoever calls it holds them against the limit.
func splitUp(t *api.Tree, path []place) {
	for _, p := range slices.Backward(path) {
		if isOver(t.Nodes[kidAt(*t, p)]) {
			split(t, p)
		}
	}
	if isOver(t.Nodes[t.Root]) {
		t.Root = laidNode(t, api.Node{Kids: []int{t.Root}})
		split(t, place{t.Root, 0})
	}
}

// joinUp mends what a key less made too small, from the leaf up.
func joinUp(t *api.Tree, path []place) {
	for _, p := range slices.Backward(path) {
		if len(t.Nodes[kidAt(*t, p)].Keys) < leastKeys {
			join(t, p)
		}
	}
	if old := t.Root; len(t.Nodes[old].Kids) == 1 {
		t.Root = t.Nodes[old].Kids[0]
		free(t, old)
	}
}

func isOver(n api.Node) bool { return len(n.Keys) > api.Order }

// split parts the kid at p into two.
func split(t *api.Tree, p place) {
	kid := kidAt(*t, p)
	low, bound, high := halves(t.Nodes[kid])
	t.Nodes[kid] = low
	beside := laidNode(t, high)
	parent := &t.Nodes[p.node]
	parent.Keys = slices.Insert(parent.Keys, p.kid, bound)
	parent.Kids = slices.Insert(parent.Kids, p.kid+1, beside)
}

// join puts the kid at p and the one beside it together: keys that both have
// room for, but one has not, are parted anew.
func join(t *api.Tree, p place) {
	p.kid = max(p.kid-1, 0)
	parent := &t.Nodes[p.node]
	kid, beside := parent.Kids[p.kid], parent.Kids[p.kid+1]
	t.Nodes[kid] = joined(t.Nodes[kid], parent.Keys[p.kid], t.Nodes[beside])
	parent.Keys = slices.Delete(parent.Keys, p.kid, p.kid+1)
	parent.Kids = slices.Delete(parent.Kids, p.kid+1, p.kid+2)
	free(t, beside)
	if isOver(t.Nodes[kid]) {
		split(t, p)
	}
}

// The bound of two leaves stays a key of the higher one, that of two inner nodes
// is one of neither. Cloned, the halves share no memory.
func halves(n api.Node) (low api.Node, bound string, high api.Node) {
	half := len(n.Keys) / 2
	low.Leaf, high.Leaf = n.Leaf, n.Leaf
	low.Keys = slices.Clone(n.Keys[:half])
	if n.Leaf {
		high.Keys = slices.Clone(n.Keys[half:])
		low.Rows, high.Rows = slices.Clone(n.Rows[:half]), slices.Clone(n.Rows[half:])
	} else {
		high.Keys = slices.Clone(n.Keys[half+1:])
		low.Kids, high.Kids = slices.Clone(n.Kids[:half+1]), slices.Clone(n.Kids[half+1:])
	}
	return low, n.Keys[half], high
}

func joined(low api.Node, bound string, high api.Node) api.Node {
	keys := low.Keys
	if !low.Leaf {
		keys = append(keys, bound)
	}
	return api.Node{
		Keys: slices.Concat(keys, high.Keys),
		Rows: slices.Concat(low.Rows, high.Rows),
		Kids: slices.Concat(low.Kids, high.Kids),
		Leaf: low.Leaf,
	}
}

// laidNode is the number that n has now: the least free one, else one more.
func laidNode(t *api.Tree, n api.Node) int {
	if len(t.Free) == 0 {
		t.Nodes = append(t.Nodes, n)
		return len(t.Nodes) - 1
	}
	at := t.Free[0]
	t.Free = t.Free[1:]
	t.Nodes[at] = n
	return at
}

func free(t *api.Tree, n int) {
	t.Nodes[n] = api.Node{}
	t.Free = append(t.Free, n)
	slices.Sort(t.Free)
}
