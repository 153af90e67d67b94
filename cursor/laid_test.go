package cursor

import (
	"math"
	"slices"
	"sync"
	"testing"

	"quorum/api"
	"quorum/key"
)

// pair is one leaf with two keys.
func pair() api.Tree {
	return api.Tree{Nodes: []api.Node{{Leaf: true, Keys: []string{"a", "b"}, Rows: []int{7, 8}}}}
}

// R1, and the ways. It stands first, so that what is laid once is laid while
// many ask for it.
func TestManyAtOnce(t *testing.T) {
	const many = 32
	var told [many][3]api.Errno
	var group sync.WaitGroup
	for i := range many {
		group.Go(func() {
			for at, n := range []int{api.MaxNum, api.MaxNum + 1, 0} {
				_, told[i][at] = Rows(pair(), key.All(), n, i%2 == 0)
			}
		})
	}
	group.Wait()
	for i, e := range told {
		if e != [3]api.Errno{api.OK, api.ErrForm, api.OK} {
			t.Errorf("%d: %v", i, e)
		}
	}
	if n := most.Load(); n != api.MaxNum {
		t.Errorf("laid: %d", n)
	}
}

// The variables stand beside the answers: whatever is in them, the answers
// are the same.
func TestNoAnswerHangsOnWhatIsLaid(t *testing.T) {
	Rows(pair(), key.All(), 0, false)
	was := most.Load()
	defer most.Store(was)
	for _, n := range []int64{math.MinInt64, -1, 0, 1, 2, api.MaxNum - 1, api.MaxNum + 1, math.MaxInt64} {
		most.Store(n)
		wantRows(t, n)
		wantKeys(t, n)
	}
}

func wantRows(t *testing.T, laid int64) {
	t.Helper()
	all := []api.Row{{Key: "a", Value: "7"}, {Key: "b", Value: "8"}}
	for n, want := range map[int][]api.Row{0: nil, 1: all[:1], 2: all, 3: all, api.MaxNum: all} {
		if l, e := Rows(pair(), key.All(), n, false); !slices.Equal(l, want) || e != api.OK {
			t.Errorf("laid %d: at most %d: %v, %v", laid, n, l, e)
		}
	}
	for _, n := range []int{-1, api.MaxNum + 1, math.MinInt, math.MaxInt} {
		if l, e := Rows(pair(), key.All(), n, false); len(l) > 0 || e != api.ErrForm {
			t.Errorf("laid %d: at most %d: %v, %v", laid, n, l, e)
		}
	}
}

func wantKeys(t *testing.T, laid int64) {
	t.Helper()
	type told struct {
		key string
		row int
		e   api.Errno
	}
	var next, last, first, end told
	next.key, next.row, next.e = Next(pair(), "aa")
	last.key, last.row, last.e = Last(pair(), "b")
	first.key, first.row, first.e = First(pair())
	end.key, end.row, end.e = End(pair())
	if low, high := (told{"a", 7, api.OK}), (told{"b", 8, api.OK}); next != high || last != low || first != low || end != high {
		t.Errorf("laid %d: %v, %v, %v, %v", laid, next, last, first, end)
	}
}
