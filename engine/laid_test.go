package engine

import (
	"math"
	"strconv"
	"sync"
	"testing"

	"quorum/api"
)

// sized is a map of one table, of n rows.
func sized(n int) [][]api.Row {
	var rows []api.Row
	for i := range n {
		rows = append(rows, api.Row{Key: "k" + strconv.Itoa(1000+i), Value: "v"})
	}
	return [][]api.Row{rows}
}

func wide() api.Config {
	return api.Config{Tables: 1, Locks: 9, Versions: api.MaxRooms, Group: 1, Policy: api.PolicyDie}
}

// one puts a row, and commits.
func one() api.Epoch {
	return api.Epoch{Programs: []api.Program{{Ops: []api.Op{{Kind: api.OpPut, Key: "a", Value: "w"}, {Kind: api.OpCommit}}}}, Picks: []int{0, 0}, Crash: -1}
}

// R1, and the ways. It stands first, so that what is laid once is laid while
// many ask for it. Two engines have nothing in common.
func TestManyAtOnce(t *testing.T) {
	const many = 16
	var told [many][3]api.Errno
	var engines [many]*Engine
	var group sync.WaitGroup
	for i := range many {
		group.Go(func() {
			engines[i], told[i][0] = New(wide(), sized(i))
			_, told[i][1] = New(wide(), sized(api.MaxRooms+1))
			for range i {
				_, told[i][2] = engines[i].Run(one())
			}
		})
	}
	group.Wait()
	for i, e := range told {
		if e != [3]api.Errno{api.OK, api.ErrFull, api.OK} {
			t.Fatalf("%d: %v", i, e)
		}
		if g := engines[i]; len(g.Map()[0]) != i+min(i, 1) || g.Picks() != 2*i || len(g.Tape().Sectors) != api.MaxTape {
			t.Errorf("%d: %v, %d", i, g.Map(), g.Picks())
		}
	}
	if n := most.Load(); n != api.MaxTape {
		t.Errorf("laid: %d", n)
	}
}

// The variables stand beside the answers: whatever is in them, the answers
// are the same.
func TestNoAnswerHangsOnWhatIsLaid(t *testing.T) {
	New(wide(), nil)
	was := most.Load()
	defer most.Store(was)
	for _, n := range []int64{math.MinInt64, -1, 0, 1, 2, api.MaxTape - 1, api.MaxTape + 1, math.MaxInt64} {
		most.Store(n)
		for _, size := range []int{0, 1, api.MaxRooms - 1} {
			wantAnswers(t, n, size)
		}
		for _, size := range []int{api.MaxRooms + 1, 2 * api.MaxRooms} {
			if g, e := New(wide(), sized(size)); g != nil || e != api.ErrFull {
				t.Errorf("laid %d, %d rows: %v", n, size, e)
			}
		}
		if g, e := New(wide(), nil); g != nil || e != api.ErrForm {
			t.Errorf("laid %d: %v", n, e)
		}
	}
}

func wantAnswers(t *testing.T, laid int64, size int) {
	t.Helper()
	g, e := New(wide(), sized(size))
	if e != api.OK {
		t.Fatalf("laid %d, %d rows: %v", laid, size, e)
	}
	a, e := g.Run(one())
	if e != api.OK || len(a) != 1 || len(a[0]) != 2 || len(g.Map()[0]) != size+1 || g.Picks() != 2 || len(g.Tape().Sectors) != api.MaxTape || g.Restore() != api.OK || len(g.Map()[0]) != size+1 {
		t.Errorf("laid %d, %d rows: %v, %v, %v", laid, size, e, a, g.Map())
	}
}
