package view

import (
	"math"
	"sync"
	"testing"

	"quorum/api"
	"quorum/key"
)

// sized are n tables, each with one version.
func sized(n int) []api.Table {
	var l []api.Table
	for range n {
		l = append(l, api.Table{Rows: []api.Chain{{Key: "k", List: []api.Version{{Commit: 1, Value: "v"}}}}})
	}
	return l
}

func own() api.Pend {
	return api.Pend{List: []api.Write{{Key: "a", Value: "new"}, {Key: "k", Gone: true}}}
}

// R1, and the ways. It stands first, so that what is laid once is laid while
// many ask for it.
func TestManyAtOnce(t *testing.T) {
	const many = 32
	var told [many][4]api.Errno
	var group sync.WaitGroup
	for i := range many {
		group.Go(func() {
			for at, n := range []int{api.MaxTables, api.MaxTables + 1, 1, 0} {
				_, told[i][at] = Get(sized(n), own(), 0, "a", 1)
			}
		})
	}
	group.Wait()
	for i, e := range told {
		if e != [4]api.Errno{api.OK, api.ErrForm, api.OK, api.ErrForm} {
			t.Errorf("%d: %v", i, e)
		}
	}
	if n := most.Load(); n != api.MaxTables {
		t.Errorf("laid: %d", n)
	}
}

// The variables stand beside the answers: whatever is in them, the answers
// are the same.
func TestNoAnswerHangsOnWhatIsLaid(t *testing.T) {
	Get(sized(1), own(), 0, "a", 1)
	was := most.Load()
	defer most.Store(was)
	for _, n := range []int64{math.MinInt64, -1, 0, 1, 2, api.MaxTables - 1, api.MaxTables + 1, math.MaxInt64} {
		most.Store(n)
		for _, size := range []int{api.MaxTables + 1, api.MaxTables + 2, 2 * api.MaxTables} {
			wantErrors(t, n, size)
		}
		for _, size := range []int{1, 2, api.MaxTables} {
			wantAnswers(t, n, size)
		}
	}
}

func wantErrors(t *testing.T, laid int64, size int) {
	t.Helper()
	l := sized(size)
	_, get := Get(l, own(), 0, "a", 1)
	_, scan := Scan(l, own(), 0, key.All(), 1, 9, false)
	_, apply := Apply(l, own(), 2)
	if e := [3]api.Errno{get, scan, apply}; e != [3]api.Errno{api.ErrForm, api.ErrForm, api.ErrForm} {
		t.Errorf("laid %d, %d tables: %v", laid, size, e)
	}
}

func wantAnswers(t *testing.T, laid int64, size int) {
	t.Helper()
	l := sized(size)
	v, get := Get(l, own(), 0, "a", 1)
	rows, scan := Scan(l, own(), 0, key.All(), 1, 9, false)
	x, apply := Apply(l, own(), 2)
	if e := [3]api.Errno{get, scan, apply}; e != [3]api.Errno{} || v != "new" || len(rows) != 1 || len(x) != size || len(x[0].Rows) != 2 {
		t.Errorf("laid %d, %d tables: %v, %q, %v, %v", laid, size, e, v, rows, x)
	}
}
