package alone

import (
	"math"
	"sync"
	"testing"

	"quorum/api"
)

// sized is a map of n tables, each with one row.
func sized(n int) [][]api.Row {
	var m [][]api.Row
	for range n {
		m = append(m, []api.Row{{Key: "k", Value: "v"}})
	}
	return m
}

// R1, and the ways. It stands first, so that what is laid once is laid while
// many ask for it.
func TestManyAtOnce(t *testing.T) {
	const many = 32
	var told [many][4]api.Errno
	var group sync.WaitGroup
	for i := range many {
		group.Go(func() {
			for at, n := range []int{api.MaxTables, api.MaxTables + 1, 1, 0} {
				told[i][at] = Check(sized(n))
			}
		})
	}
	group.Wait()
	for i, e := range told {
		if e != [4]api.Errno{api.OK, api.ErrForm, api.OK, api.OK} {
			t.Errorf("%d: %v", i, e)
		}
	}
	if n := most.Load(); n != api.MaxTables {
		t.Errorf("laid: %d", n)
	}
}

// The variables stand beside the answers: whatever is in them, the answers
// are the same.
func TestNoAnswerHangsOnWhatIsLaid(t *testing.T) {
	Check(nil)
	was := most.Load()
	defer most.Store(was)
	for _, n := range []int64{math.MinInt64, -1, 0, 1, 2, api.MaxTables - 1, api.MaxTables + 1, math.MaxInt64} {
		most.Store(n)
		for _, size := range []int{api.MaxTables + 1, api.MaxTables + 2, 2 * api.MaxTables} {
			wantErrors(t, n, size)
		}
		for _, size := range []int{1, 2, api.MaxTables} {
			wantAnswers(t, n, size)
		}
	}
}

func putAndCommit() api.Program {
	return api.Program{Ops: []api.Op{{Kind: api.OpPut, Key: "a", Value: "new"}, {Kind: api.OpCommit}}}
}

func wantErrors(t *testing.T, laid int64, size int) {
	t.Helper()
	m := sized(size)
	check := Check(m)
	_, _, do := Do(m, api.Pend{}, api.Op{Kind: api.OpGet, Key: "k"}, false)
	_, _, _, run := Run(m, putAndCommit())
	_, _, many := Many(m, putAndCommit())
	if e := [4]api.Errno{check, do, run, many}; e != [4]api.Errno{api.ErrForm, api.ErrForm, api.ErrForm, api.ErrForm} {
		t.Errorf("laid %d, %d tables: %v", laid, size, e)
	}
}

func wantAnswers(t *testing.T, laid int64, size int) {
	t.Helper()
	m := sized(size)
	check := Check(m)
	_, a, do := Do(m, api.Pend{}, api.Op{Kind: api.OpGet, Key: "k"}, false)
	_, x, done, run := Run(m, putAndCommit())
	_, y, many := Many(m, putAndCommit(), putAndCommit())
	if e := [4]api.Errno{check, do, run, many}; e != [4]api.Errno{} || a.Value != "v" || !done || len(x) != size || len(x[0]) != 2 || len(y) != size || len(y[0]) != 2 {
		t.Errorf("laid %d, %d tables: %v, %v, %v, %v", laid, size, e, a, x, y)
	}
}
