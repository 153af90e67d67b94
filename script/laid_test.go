package script

import (
	"math"
	"sync"
	"testing"

	"quorum/api"
)

// sized are n epochs, of so many picks each, that put a row.
func sized(n, picks int) []api.Epoch {
	var l []api.Epoch
	for range n {
		l = append(l, api.Epoch{Programs: []api.Program{{Ops: []api.Op{{Kind: api.OpPut, Key: "a", Value: "w"}, {Kind: api.OpCommit}}}}, Picks: make([]int, picks), Crash: -1})
	}
	return l
}

func all(l []api.Epoch) (api.Report, api.Errno) {
	return Run(api.Config{Tables: 1, Locks: 9, Versions: 9, Group: 1, Policy: api.PolicyDie}, [][]api.Row{nil}, l)
}

// R1, and the ways. It stands first, so that what is laid once is laid while
// many ask for it.
func TestManyAtOnce(t *testing.T) {
	const many = 24
	var errs [many]api.Errno
	var reports [many]api.Report
	var group sync.WaitGroup
	for i := range many {
		group.Go(func() { reports[i], errs[i] = all(sized(i, 100)) })
	}
	group.Wait()
	for i, r := range reports {
		want, n := api.OK, i
		if i > mostEpochs {
			want, n = api.ErrLimit, 0
		}
		if errs[i] != want || len(r.Maps) != n || len(r.Answers) != n {
			t.Errorf("%d: %v, %v", i, errs[i], r)
		}
	}
	if n := most.Load(); n != 2000 {
		t.Errorf("laid: %d", n)
	}
}

// The variables stand beside the answers: whatever is in them, the answers
// are the same.
func TestNoAnswerHangsOnWhatIsLaid(t *testing.T) {
	all(nil)
	was := most.Load()
	defer most.Store(was)
	for _, n := range []int64{math.MinInt64, -1, 0, 1, 19, 1999, 2001, math.MaxInt64} {
		most.Store(n)
		for _, x := range []struct {
			epochs, picks int
			want          api.Errno
		}{{0, 0, api.OK}, {1, 1, api.OK}, {1, 2000, api.OK}, {1, 2001, api.ErrLimit}, {20, 100, api.OK}, {20, 101, api.ErrLimit}, {21, 0, api.ErrLimit}} {
			r, e := all(sized(x.epochs, x.picks))
			if e != x.want || e == api.OK && (len(r.Maps) != x.epochs || len(r.Answers) != x.epochs) {
				t.Errorf("laid %d: %d, %d: %v, %v", n, x.epochs, x.picks, e, r)
			}
		}
	}
}
