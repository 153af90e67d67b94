package check

import (
	"math"
	"sync"
	"testing"

	"quorum/api"
)

func config() api.Config {
	return api.Config{Tables: 1, Locks: 1, Versions: 1, Group: 1, Policy: api.PolicyDie}
}

// sized is a program of n ops, each of which needs two locks.
func sized(n int) api.Program {
	var g api.Program
	for range n {
		g.Ops = append(g.Ops, api.Op{Kind: api.OpPut, Key: "k"})
	}
	return g
}

// R1, and the ways. It stands first, so that what is laid once is laid while
// many ask for it.
func TestManyAtOnce(t *testing.T) {
	const many = 32
	var told [many][4]api.Errno
	var group sync.WaitGroup
	for i := range many {
		group.Go(func() {
			for at, n := range []int{api.MaxOps, api.MaxOps + 1, 1, 0} {
				told[i][at] = Program(sized(n), 1)
			}
		})
	}
	group.Wait()
	for i, e := range told {
		if e != [4]api.Errno{api.OK, api.ErrForm, api.OK, api.OK} {
			t.Errorf("%d: %v", i, e)
		}
	}
	if n := most.Load(); n != api.MaxOps {
		t.Errorf("laid: %d", n)
	}
}

// The variables stand beside the answers: whatever is in them, the answers
// are the same.
func TestNoAnswerHangsOnWhatIsLaid(t *testing.T) {
	Program(sized(0), 1)
	was := most.Load()
	defer most.Store(was)
	for _, n := range []int64{math.MinInt64, -1, 0, 1, 2, api.MaxOps - 1, api.MaxOps + 1, math.MaxInt64} {
		most.Store(n)
		for _, size := range []int{0, 1, api.MaxOps - 1, api.MaxOps} {
			wantAnswers(t, n, size)
		}
		for _, size := range []int{api.MaxOps + 1, api.MaxOps + 2, 2 * api.MaxOps} {
			wantErrors(t, n, size)
		}
	}
}

func wantAnswers(t *testing.T, laid int64, size int) {
	t.Helper()
	g := sized(size)
	if e := [3]api.Errno{Config(config()), Program(g, 1), Programs(config(), []api.Program{g})}; e != [3]api.Errno{} {
		t.Errorf("laid %d, %d ops: %v", laid, size, e)
	}
	locks, e := Locks(config(), g)
	rooms, f := Rooms(config(), g)
	bound, h := Bound(config(), g)
	if locks != 2*size || rooms != size || bound != (2*size+3)*2 || e != api.OK || f != api.OK || h != api.OK {
		t.Errorf("laid %d, %d ops: %d, %d, %d, %v, %v, %v", laid, size, locks, rooms, bound, e, f, h)
	}
}

func wantErrors(t *testing.T, laid int64, size int) {
	t.Helper()
	g := sized(size)
	locks, e := Locks(config(), g)
	rooms, f := Rooms(config(), g)
	bound, h := Bound(config(), g)
	all := [5]api.Errno{Program(g, 1), Programs(config(), []api.Program{g}), e, f, h}
	if want := [5]api.Errno{api.ErrForm, api.ErrForm, api.ErrForm, api.ErrForm, api.ErrForm}; all != want || locks != 0 || rooms != 0 || bound != 0 {
		t.Errorf("laid %d, %d ops: %v, %d, %d, %d", laid, size, all, locks, rooms, bound)
	}
}
