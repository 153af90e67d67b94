package tree

import (
	"strconv"
	"sync"
	"testing"

	"quorum/api"
)

// roomy is one leaf with Order keys, and all other nodes are free.
func roomy(nodes int) api.Tree {
	t := api.Tree{Nodes: make([]api.Node, nodes)}
	for i := range api.Order {
		put(&t.Nodes[0], i, "k"+strconv.Itoa(i), i)
	}
	t.Nodes[0].Leaf = true
	for n := 1; n < nodes; n++ {
		t.Free = append(t.Free, n)
	}
	return t
}

// R1, and the ways. It stands first, so that what is laid once is laid while
// many ask for it.
func TestManyAtOnce(t *testing.T) {
	const many = 32
	var told [many][3]api.Errno
	var group sync.WaitGroup
	for i := range many {
		group.Go(func() {
			told[i] = [3]api.Errno{Check(roomy(api.MaxNodes)), Check(roomy(api.MaxNodes + 1)), Check(New())}
		})
	}
	group.Wait()
	for i, e := range told {
		if e != [3]api.Errno{api.OK, api.ErrForm, api.OK} {
			t.Errorf("%d: %v", i, e)
		}
	}
	if n := most.Load(); n != api.MaxNodes {
		t.Errorf("laid: %d", n)
	}
}

// The variables stand beside the answers: whatever is in them, the answers
// are the same.
func TestNoAnswerHangsOnWhatIsLaid(t *testing.T) {
	Check(New())
	was := most.Load()
	defer most.Store(was)
	fit := rising()
	for _, n := range []int64{-1, 0, 1, api.MaxNodes - 1, api.MaxNodes + 1, 1 << 40} {
		most.Store(n)
		wantErrors(t, n, 1, api.OK)
		wantErrors(t, n, api.MaxNodes-1, api.OK)
		wantErrors(t, n, api.MaxNodes, api.OK)
		wantErrors(t, n, api.MaxNodes+1, api.ErrForm)
		if keys := rising(); keys != fit || keys < api.MaxNodes {
			t.Errorf("laid %d: %d keys fit, not %d", n, keys, fit)
		}
	}
}

func wantErrors(t *testing.T, laid int64, nodes int, want api.Errno) {
	t.Helper()
	x := roomy(nodes)
	_, find := Find(x, "k0")
	_, add := Add(x, "k", 1)
	_, cut := Cut(x, "k0")
	_, all := All(x)
	_, count := Count(x)
	_, deep := Deep(x)
	for i, e := range []api.Errno{Check(x), find, add, cut, all, count, deep} {
		if e != want {
			t.Errorf("laid %d, %d nodes, call %d: %v, not %v", laid, nodes, i, e, want)
		}
	}
}

// rising is how many rising keys a tree has room for.
func rising() int {
	x := New()
	for i := 0; ; i++ {
		more, e := Add(x, "k"+strconv.Itoa(1<<20+i), i)
		if e != api.OK {
			return i
		}
		x = more
	}
}
