package order

import (
	"math"
	"slices"
	"sync"
	"testing"

	"quorum/api"
)

// sized is a state of n sessions, all of which are done, the last one first.
func sized(n int) api.State {
	s := api.State{Config: api.Config{Tables: 1, Locks: 1, Versions: 1, Group: 1, Policy: api.PolicyDie}, Tables: make([]api.Table, 1), Ages: n}
	for i := range n {
		s.Programs = append(s.Programs, api.Program{Only: true, Ops: []api.Op{{Kind: api.OpCommit}}})
		s.Sessions = append(s.Sessions, api.Session{Status: api.IsDone, At: 1, Age: n - i, Answers: make([]api.Answer, 1)})
	}
	return s
}

func falling(n int) []int {
	var l []int
	for i := range n {
		l = append(l, n-1-i)
	}
	return l
}

// R1, and the ways. It stands first, so that what is laid once is laid while
// many ask for it.
func TestManyAtOnce(t *testing.T) {
	const many = 32
	sizes := []int{api.MaxProgs, api.MaxProgs + 1, 1, 0}
	var told [many][4][]int
	var errs [many][4]api.Errno
	var group sync.WaitGroup
	for i := range many {
		group.Go(func() {
			for at, n := range sizes {
				told[i][at], errs[i][at] = Serial(sized(n))
			}
		})
	}
	group.Wait()
	for i, e := range errs {
		if e != [4]api.Errno{api.OK, api.ErrForm, api.OK, api.OK} {
			t.Errorf("%d: %v", i, e)
		}
		for at, want := range [][]int{falling(api.MaxProgs), nil, falling(1), nil} {
			if !slices.Equal(told[i][at], want) {
				t.Errorf("%d: %v, not %v", i, told[i][at], want)
			}
		}
	}
	if n := most.Load(); n != api.MaxProgs {
		t.Errorf("laid: %d", n)
	}
}

// The variables stand beside the answers: whatever is in them, the answers
// are the same.
func TestNoAnswerHangsOnWhatIsLaid(t *testing.T) {
	Serial(sized(0))
	was := most.Load()
	defer most.Store(was)
	for _, n := range []int64{math.MinInt64, -1, 0, 1, 2, api.MaxProgs - 1, api.MaxProgs + 1, math.MaxInt64} {
		most.Store(n)
		for _, size := range []int{0, 1, api.MaxProgs - 1, api.MaxProgs} {
			wantAnswers(t, n, size)
		}
		for _, size := range []int{api.MaxProgs + 1, api.MaxProgs + 2, 2 * api.MaxProgs} {
			wantErrors(t, n, size)
		}
	}
}

func wantAnswers(t *testing.T, laid int64, size int) {
	t.Helper()
	s, m := sized(size), make([][]api.Row, 1)
	l, e := Serial(s)
	if e != api.OK || !slices.Equal(l, falling(size)) {
		t.Errorf("laid %d, %d sessions: %v, %v", laid, size, e, l)
	}
	is, e := Fits(s, m)
	other, f := Fits(s, [][]api.Row{{{Key: "a"}}})
	if e != api.OK || f != api.OK || !is || other {
		t.Errorf("laid %d, %d sessions: %v, %v, %t, %t", laid, size, e, f, is, other)
	}
	x, e := Map(s)
	n, f := Open(s)
	if e != api.OK || f != api.OK || len(x) != 1 || len(x[0]) != 0 || n != 0 {
		t.Errorf("laid %d, %d sessions: %v, %v, %v, %d", laid, size, e, f, x, n)
	}
}

func wantErrors(t *testing.T, laid int64, size int) {
	t.Helper()
	s := sized(size)
	l, e := Serial(s)
	is, f := Fits(s, make([][]api.Row, 1))
	x, g := Map(s)
	n, h := Open(s)
	if errs := [4]api.Errno{e, f, g, h}; errs != [4]api.Errno{api.ErrForm, api.ErrForm, api.ErrForm, api.ErrForm} || len(l) != 0 || is || len(x) != 0 || n != 0 {
		t.Errorf("laid %d, %d sessions: %v, %v, %t, %v, %d", laid, size, errs, l, is, x, n)
	}
}
