package wait

import (
	"sync"
	"testing"

	"quorum/api"
)

func idle(n int) []api.Wait {
	var l []api.Wait
	for i := range n {
		l = append(l, api.Wait{Owner: i})
	}
	return l
}

// R1, and the ways. It stands first, so that what is laid once is laid while
// many ask for it.
func TestManyAtOnce(t *testing.T) {
	const many = 32
	var told [many][3]api.Errno
	var group sync.WaitGroup
	for i := range many {
		group.Go(func() {
			_, reach := Reach(idle(api.MaxProgs), 0)
			_, circle := Circle(idle(api.MaxProgs+1), 0)
			told[i] = [3]api.Errno{Check(idle(api.MaxProgs)), reach, circle}
		})
	}
	group.Wait()
	for i, e := range told {
		if e != [3]api.Errno{api.OK, api.OK, api.ErrForm} {
			t.Errorf("%d: %v", i, e)
		}
	}
	if n := most.Load(); n != api.MaxProgs {
		t.Errorf("laid: %d", n)
	}
}

// The variables stand beside the answers: whatever is in them, the answers
// are the same.
func TestNoAnswerHangsOnWhatIsLaid(t *testing.T) {
	Check(nil)
	was := most.Load()
	defer most.Store(was)
	for _, n := range []int64{-1, 0, api.MaxProgs - 1, api.MaxProgs + 1, 1 << 40} {
		most.Store(n)
		wantErrors(t, n, 0, api.OK, api.ErrNone)
		wantErrors(t, n, api.MaxProgs-1, api.OK, api.ErrNone)
		wantErrors(t, n, api.MaxProgs, api.OK, api.ErrNone)
		wantErrors(t, n, api.MaxProgs+1, api.ErrForm, api.ErrForm)
	}
}

func wantErrors(t *testing.T, laid int64, waits int, want, victims api.Errno) {
	t.Helper()
	l := idle(waits)
	var ages []int
	for i := range waits {
		ages = append(ages, i+1)
	}
	_, victim := Victim(l, ages, 0)
	if victim != victims {
		t.Errorf("laid %d, %d waits: Victim %v, not %v", laid, waits, victim, victims)
	}
	_, reach := Reach(l, 0)
	_, circle := Circle(l, 0)
	for i, e := range []api.Errno{Check(l), reach, circle} {
		if e != want {
			t.Errorf("laid %d, %d waits, call %d: %v, not %v", laid, waits, i, e, want)
		}
	}
}
