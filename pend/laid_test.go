package pend

import (
	"math"
	"sync"
	"testing"

	"quorum/api"
)

// sized has n writes, all of one key, and marks ahead of them and behind them.
func sized(n int) api.Pend {
	p := api.Pend{Marks: []int{0, n}}
	for range n {
		p.List = append(p.List, api.Write{Key: "k", Value: "v"})
	}
	return p
}

// R1, and the ways. It stands first, so that what is laid once is laid while
// many ask for it.
func TestManyAtOnce(t *testing.T) {
	const many = 32
	var told [many][4]api.Errno
	var group sync.WaitGroup
	for i := range many {
		group.Go(func() {
			told[i] = [4]api.Errno{Check(sized(api.MaxOps)), Check(sized(api.MaxOps + 1)), Check(sized(1)), Check(sized(0))}
		})
	}
	group.Wait()
	for i, e := range told {
		if e != [4]api.Errno{api.OK, api.ErrForm, api.OK, api.OK} {
			t.Errorf("%d: %v", i, e)
		}
	}
	if n := most.Load(); n != api.MaxOps {
		t.Errorf("laid: %d", n)
	}
}

// The variables stand beside the answers: whatever is in them, the answers
// are the same.
func TestNoAnswerHangsOnWhatIsLaid(t *testing.T) {
	Check(sized(1))
	was := most.Load()
	defer most.Store(was)
	for _, n := range []int64{math.MinInt64, -1, 0, 1, 2, api.MaxOps - 1, api.MaxOps + 1, math.MaxInt64} {
		most.Store(n)
		for _, size := range []int{api.MaxOps + 1, api.MaxOps + 2, 2 * api.MaxOps} {
			wantErrors(t, n, size, api.ErrForm, api.ErrForm)
		}
		wantErrors(t, n, api.MaxOps, api.OK, api.ErrLimit)
		wantAnswers(t, n, api.MaxOps)
		for _, size := range []int{1, 2, api.MaxOps - 1} {
			wantErrors(t, n, size, api.OK, api.OK)
			wantAnswers(t, n, size)
		}
	}
}

// Of Put there is another error than of the other calls, if there is no room.
func wantErrors(t *testing.T, laid int64, size int, want, put api.Errno) {
	t.Helper()
	p := sized(size)
	_, last := Last(p, 0, "k")
	_, sum := Sum(p)
	_, _, save := Save(p)
	_, back := Return(p, 1)
	_, release := Release(p, 1)
	for i, e := range []api.Errno{Check(p), last, sum, save, back, release} {
		if e != want {
			t.Errorf("laid %d, %d writes, call %d: %v, not %v", laid, size, i, e, want)
		}
	}
	if _, e := Put(p, api.Write{Key: "k"}); e != put {
		t.Errorf("laid %d, %d writes: Put %v, not %v", laid, size, e, put)
	}
}

func wantAnswers(t *testing.T, laid int64, size int) {
	t.Helper()
	p := sized(size)
	w, last := Last(p, 0, "k")
	l, sum := Sum(p)
	x, n, save := Save(p)
	y, back := Return(p, 0)
	z, release := Release(p, 1)
	if e := [5]api.Errno{last, sum, save, back, release}; e != [5]api.Errno{} || w != p.List[0] || len(l) != 1 || n != 2 ||
		len(x.List) != size || len(x.Marks) != 3 || len(y.List) != 0 || len(y.Marks) != 1 || len(z.List) != size || len(z.Marks) != 1 {
		t.Errorf("laid %d, %d writes: %v, %v, %v, %v, %d, %v, %v", laid, size, e, w, l, x, n, y, z)
	}
}
