package tree

import (
	"quorum/api"
	"quorum/key"
)

// A node but the root has at least leastKeys.
const leastKeys = api.Order / 2

// part is a node, and the range that its keys are of. The keys of inner nodes
// may be any texts, so that a bound may be longer than package key lets it be.
type part struct {
	node int
	keys api.Range
}

// The number of nodes stands first: it bounds all that is gone through.
func mayBe(t api.Tree) bool {
	return len(t.Nodes) <= mostNodes() && freeMayBe(t) && nodesMayBe(t)
}

func freeMayBe(t api.Tree) bool {
	least := 0
	for _, n := range t.Free {
		if n < least || !isNode(t, n) || !isZero(t.Nodes[n]) {
			return false
		}
		least = n + 1
	}
	return true
}

func isNode(t api.Tree, n int) bool { return n >= 0 && n < len(t.Nodes) }

// A list that is empty is as good as none.
func isZero(n api.Node) bool {
	return len(n.Keys) == 0 && len(n.Rows) == 0 && len(n.Kids) == 0 && !n.Leaf
}

// nodesMayBe goes down level by level, so that leaves at unlike depths are
// leaves beside inner nodes. Each node counts once, so that a circle does not go
// on for ever; a free one that is reached is no inner node that may be.
func nodesMayBe(t api.Tree) bool {
	reached := make([]bool, len(t.Nodes))
	count := 0
	for level := []part{{t.Root, key.All()}}; len(level) > 0; level = below(t, level) {
		for _, p := range level {
			if !isNode(t, p.node) || reached[p.node] || !partMayBe(t, p) || isLeaf(t, p) != isLeaf(t, level[0]) {
				return false
			}
			reached[p.node] = true
		}
		count += len(level)
	}
	return count+len(t.Free) == len(t.Nodes)
}

func isLeaf(t api.Tree, p part) bool { return t.Nodes[p.node].Leaf }

func below(t api.Tree, level []part) []part {
	var next []part
	for _, p := range level {
		n := t.Nodes[p.node]
		for i, kid := range n.Kids {
			next = append(next, part{kid, kidRange(n.Keys, p.keys, i)})
		}
	}
	return next
}

// kidRange is the range that kid i has of whole, which keys part.
func kidRange(keys []string, whole api.Range, i int) api.Range {
	if i > 0 {
		whole.Low = keys[i-1]
	}
	if i < len(keys) {
		whole.High, whole.Top = keys[i], false
	}
	return whole
}

// Order stands first: it bounds how many keys are gone through.
func partMayBe(t api.Tree, p part) bool {
	n := t.Nodes[p.node]
	if len(n.Keys) > api.Order || len(n.Keys) < leastKeys && p.node != t.Root {
		return false
	}
	return rise(n.Keys) && areIn(n.Keys, p.keys) && listsMayBe(n)
}

func rise(keys []string) bool {
	for i := 1; i < len(keys); i++ {
		if keys[i-1] >= keys[i] {
			return false
		}
	}
	return true
}

func areIn(keys []string, r api.Range) bool {
	for _, k := range keys {
		if k < r.Low || !r.Top && k >= r.High {
			return false
		}
	}
	return true
}

func listsMayBe(n api.Node) bool {
	if n.Leaf {
		return len(n.Kids) == 0 && len(n.Rows) == len(n.Keys) && areKeys(n.Keys) && areRows(n.Rows)
	}
	return len(n.Rows) == 0 && len(n.Keys) > 0 && len(n.Kids) == len(n.Keys)+1
}

func areKeys(l []string) bool {
	for _, k := range l {
		if key.Key(k) != api.OK {
			return false
		}
	}
	return true
}

func areRows(l []int) bool {
	for _, row := range l {
		if !isRow(row) {
			return false
		}
	}
	return true
}

func isRow(n int) bool { return n >= 0 && n <= api.MaxNum }
