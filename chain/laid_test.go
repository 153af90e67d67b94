package chain

import (
	"math"
	"slices"
	"sync"
	"testing"

	"quorum/api"
)

// one has one version, of commit n.
func one(n int) api.Chain {
	return api.Chain{Key: "k", List: []api.Version{{Commit: n, Value: "v"}}}
}

// R1, and the ways. It stands first, so that what is laid once is laid while
// many ask for it.
func TestManyAtOnce(t *testing.T) {
	const many = 32
	var told [many][4]api.Errno
	var group sync.WaitGroup
	for i := range many {
		group.Go(func() {
			told[i] = [4]api.Errno{Check(one(api.MaxNum)), Check(one(api.MaxNum + 1)), Check(one(1)), Check(one(0))}
		})
	}
	group.Wait()
	for i, e := range told {
		if e != [4]api.Errno{api.OK, api.ErrForm, api.OK, api.ErrForm} {
			t.Errorf("%d: %v", i, e)
		}
	}
	if n := most.Load(); n != api.MaxNum {
		t.Errorf("laid: %d", n)
	}
}

// The variables stand beside the answers: whatever is in them, the answers
// are the same.
func TestNoAnswerHangsOnWhatIsLaid(t *testing.T) {
	Check(one(1))
	was := most.Load()
	defer most.Store(was)
	for _, n := range []int64{math.MinInt64, -1, 0, 1, 2, api.MaxNum - 1, api.MaxNum + 1, math.MaxInt64} {
		most.Store(n)
		for _, commit := range []int{math.MinInt, -1, 0, api.MaxNum + 1, math.MaxInt} {
			wantErrors(t, n, commit, api.ErrForm)
		}
		for _, commit := range []int{1, 2, api.MaxNum - 1, api.MaxNum} {
			wantErrors(t, n, commit, api.OK)
			wantAnswers(t, n, commit)
		}
	}
}

// Add is of a version of that commit to one of commit 1, but for commit 1 itself.
func wantErrors(t *testing.T, laid int64, commit int, want api.Errno) {
	t.Helper()
	c := one(commit)
	_, at := At(c, api.MaxNum)
	_, purge := Purge(c, 0)
	_, count := Count(c)
	_, made := New("k", c.List[0])
	added := want
	if commit != 1 {
		_, added = Add(one(1), c.List[0])
	}
	for i, e := range []api.Errno{Check(c), at, purge, count, made, added} {
		if e != want {
			t.Errorf("laid %d, commit %d, call %d: %v, not %v", laid, commit, i, e, want)
		}
	}
}

func wantAnswers(t *testing.T, laid int64, commit int) {
	t.Helper()
	c := one(commit)
	here, at := At(c, commit)
	_, before := At(c, commit-1)
	x, purge := Purge(c, commit)
	n, count := Count(c)
	y, made := New("k", c.List[0])
	if here != c.List[0] || at != api.OK || before != api.ErrNone || n != 1 || count != api.OK ||
		!slices.Equal(x.List, c.List) || purge != api.OK || !slices.Equal(y.List, c.List) || made != api.OK {
		t.Errorf("laid %d, commit %d: %v, %v, %v, %d, %v, %v, %v, %v, %v", laid, commit, here, at, before, n, count, x, purge, y, made)
	}
}
