package step

import (
	"math"
	"sync"
	"testing"

	"quorum/api"
)

func config() api.Config {
	return api.Config{Tables: 1, Locks: 2, Versions: 2, Group: 1, Policy: api.PolicyCircle}
}

// sized is a state whose first record has n writes.
func sized(n int) api.State {
	s, _ := New(config(), []api.Program{{Ops: []api.Op{{Kind: api.OpPut, Key: "k", Value: "v"}, {Kind: api.OpCommit}}}}, [][]api.Row{{{Key: "a", Value: "1"}}})
	s.Log[0].Writes = nil
	for range n {
		s.Log[0].Writes = append(s.Log[0].Writes, api.Write{Key: "w"})
	}
	return s
}

// R1, and the ways. It stands first, so that what is laid once is laid while
// many ask for it.
func TestManyAtOnce(t *testing.T) {
	const many = 32
	var told [many][4]api.Errno
	var group sync.WaitGroup
	for i := range many {
		group.Go(func() {
			for at, n := range []int{api.MaxRooms, api.MaxRooms + 1, 1, 0} {
				told[i][at] = Check(sized(n))
			}
		})
	}
	group.Wait()
	for i, e := range told {
		if e != [4]api.Errno{api.OK, api.ErrForm, api.OK, api.OK} {
			t.Errorf("%d: %v", i, e)
		}
	}
	if n := most.Load(); n != api.MaxRooms {
		t.Errorf("laid: %d", n)
	}
}

// The variables stand beside the answers: whatever is in them, the answers
// are the same.
func TestNoAnswerHangsOnWhatIsLaid(t *testing.T) {
	Check(sized(0))
	was := most.Load()
	defer most.Store(was)
	for _, n := range []int64{math.MinInt64, -1, 0, 1, 2, api.MaxRooms - 1, api.MaxRooms + 1, math.MaxInt64} {
		most.Store(n)
		for _, size := range []int{0, 1, api.MaxOps, api.MaxRooms - 1, api.MaxRooms} {
			wantAnswers(t, n, size)
		}
		for _, size := range []int{api.MaxRooms + 1, api.MaxRooms + 2, 2 * api.MaxRooms} {
			wantErrors(t, n, size)
		}
	}
}

func wantAnswers(t *testing.T, laid int64, size int) {
	t.Helper()
	s := sized(size)
	x, e := Pick(s, 0)
	y, f := Pick(x, 0)
	z, g := Flush(x)
	if Check(s) != api.OK || e != api.OK || f != api.OK || g != api.OK {
		t.Errorf("laid %d, %d writes: %v, %v, %v, %v", laid, size, Check(s), e, f, g)
	}
	if x.Sessions[0].At != 1 || y.Clock != 2 || len(y.Log) != 2 || y.Sessions[0].Status != api.IsDone || z.Clock != 1 || len(z.Locks) != 1 {
		t.Errorf("laid %d, %d writes: %v, %v, %v", laid, size, x, y, z)
	}
}

func wantErrors(t *testing.T, laid int64, size int) {
	t.Helper()
	s := sized(size)
	x, e := Pick(s, 0)
	y, f := Flush(s)
	if Check(s) != api.ErrForm || e != api.ErrForm || f != api.ErrForm || len(x.Programs) != 0 || len(y.Programs) != 0 {
		t.Errorf("laid %d, %d writes: %v, %v, %v", laid, size, Check(s), e, f)
	}
}
