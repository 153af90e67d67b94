package lock

import (
	"sync"
	"testing"

	"quorum/api"
)

func readers(n int) []api.Lock {
	var l []api.Lock
	for i := range n {
		l = append(l, api.Lock{Owner: i, Keys: api.Range{Top: true}, Mode: api.ModeR})
	}
	return l
}

// R1, and the ways. It stands first, so that what is laid once is laid while
// many ask for it.
func TestManyAtOnce(t *testing.T) {
	const many = 32
	var told [many][3]api.Errno
	var group sync.WaitGroup
	for i := range many {
		group.Go(func() {
			told[i] = [3]api.Errno{Check(readers(api.MaxLocks)), Check(readers(api.MaxLocks + 1)), Check(nil)}
		})
	}
	group.Wait()
	for i, e := range told {
		if e != [3]api.Errno{api.OK, api.ErrForm, api.OK} {
			t.Errorf("%d: %v", i, e)
		}
	}
	if n := most.Load(); n != api.MaxLocks {
		t.Errorf("laid: %d", n)
	}
}

// The variables stand beside the answers: whatever is in them, the answers
// are the same.
func TestNoAnswerHangsOnWhatIsLaid(t *testing.T) {
	Check(nil)
	was := most.Load()
	defer most.Store(was)
	for _, n := range []int64{-1, 0, api.MaxLocks - 1, api.MaxLocks + 1, 1 << 40} {
		most.Store(n)
		wantErrors(t, n, 0, api.OK, api.OK)
		wantErrors(t, n, api.MaxLocks-1, api.OK, api.OK)
		wantErrors(t, n, api.MaxLocks, api.OK, api.ErrFull)
		wantErrors(t, n, api.MaxLocks+1, api.ErrForm, api.ErrForm)
	}
}

func wantErrors(t *testing.T, laid int64, locks int, want, taken api.Errno) {
	t.Helper()
	l := readers(locks)
	x := api.Lock{Owner: api.MaxNum, Keys: api.Range{Top: true}, Mode: api.ModeR}
	_, take := Take(l, x)
	if take != taken {
		t.Errorf("laid %d, %d locks: Take %v, not %v", laid, locks, take, taken)
	}
	_, block := Block(l, x)
	_, free := Free(l, 0)
	_, covers := Covers(l, x)
	_, of := Of(l, 0)
	_, count := Count(l, 0)
	for i, e := range []api.Errno{Check(l), block, free, covers, of, count} {
		if e != want {
			t.Errorf("laid %d, %d locks, call %d: %v, not %v", laid, locks, i, e, want)
		}
	}
}
