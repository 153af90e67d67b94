package wait

import (
	"sync"
	"testing"

	"quorum/api"
)

func idle(n int) []api.Wait {
	var l []api.Wait
	for i := range n {
		l = append(l, api.Wait{Owner: i})
	}
	return l
}

// R1, and the ways. It stands first, so that what is laid once is laid while
// many ask for it.
func TestManyAtOnce(t *testing.T) {
	const many = 32
	var told [many][3]api.Errno
	var group sync.WaitGroup
	for i := range many {
		group.Go(func() {
			_, reach := Reach(idle(api.MaxProgs), 0)
			_, circle := Circle(idle(api.MaxProgs+1), 0)
			told[i] = [3]api.Errno{Check(idle(api.MaxProgs)), reach, circle}
		})
	}
	group.Wait()
	for i, e := range told {
		if e != [3]api.Errno{api.OK, api.OK, api.ErrForm} {
			t.Errorf("%d: %v", i, e)
		}
	}
	if n := most.Load(); n != api.MaxProgs {
		t.Errorf("laid: %d", n)
	}
}
