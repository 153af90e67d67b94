package table

import (
	"math"
	"sync"
	"testing"

	"quorum/api"
	"quorum/key"
)

// sized has n versions, all of one key: of commits n to 1.
func sized(n int) api.Table {
	c := api.Chain{Key: "k"}
	for i := range n {
		c.List = append(c.List, api.Version{Commit: n - i, Value: "v"})
	}
	return api.Table{Rows: []api.Chain{c}}
}

// R1, and the ways. It stands first, so that what is laid once is laid while
// many ask for it.
func TestManyAtOnce(t *testing.T) {
	const many = 32
	var told [many][4]api.Errno
	var group sync.WaitGroup
	for i := range many {
		group.Go(func() {
			told[i] = [4]api.Errno{Check(sized(api.MaxRooms)), Check(sized(api.MaxRooms + 1)), Check(sized(1)), Check(sized(0))}
		})
	}
	group.Wait()
	for i, e := range told {
		if e != [4]api.Errno{api.OK, api.ErrForm, api.OK, api.ErrForm} {
			t.Errorf("%d: %v", i, e)
		}
	}
	if n := most.Load(); n != api.MaxRooms {
		t.Errorf("laid: %d", n)
	}
}

// The variables stand beside the answers: whatever is in them, the answers
// are the same.
func TestNoAnswerHangsOnWhatIsLaid(t *testing.T) {
	Check(sized(1))
	was := most.Load()
	defer most.Store(was)
	for _, n := range []int64{math.MinInt64, -1, 0, 1, 2, api.MaxRooms - 1, api.MaxRooms + 1, math.MaxInt64} {
		most.Store(n)
		for _, size := range []int{api.MaxRooms + 1, api.MaxRooms + 2, 2 * api.MaxRooms} {
			wantErrors(t, n, size, api.ErrForm, api.ErrForm)
		}
		wantErrors(t, n, api.MaxRooms, api.OK, api.ErrFull)
		wantAnswers(t, n, api.MaxRooms)
		for _, size := range []int{1, 2, api.MaxRooms - 1} {
			wantErrors(t, n, size, api.OK, api.OK)
			wantAnswers(t, n, size)
		}
	}
}

// Of each Put there is another error than of the other calls, if there is no room.
func wantErrors(t *testing.T, laid int64, size int, want, put api.Errno) {
	t.Helper()
	x := sized(size)
	_, get := Get(x, "k", size)
	_, scan := Scan(x, key.All(), size, 1, false)
	_, purge := Purge(x, size)
	_, count := Count(x)
	_, all := Map(x, size)
	for i, e := range []api.Errno{Check(x), get, scan, purge, count, all} {
		if e != want {
			t.Errorf("laid %d, %d versions, call %d: %v, not %v", laid, size, i, e, want)
		}
	}
	_, more := Put(x, "k", api.Version{Commit: size + 1})
	_, other := Put(x, "other", api.Version{Commit: 1})
	if more != put || other != put {
		t.Errorf("laid %d, %d versions: %v, %v, not %v", laid, size, more, other, put)
	}
}

func wantAnswers(t *testing.T, laid int64, size int) {
	t.Helper()
	x := sized(size)
	v, get := Get(x, "k", size)
	l, scan := Scan(x, key.All(), size, 1, true)
	y, purge := Purge(x, size)
	n, count := Count(x)
	left, _ := Count(y)
	m, all := Map(x, size)
	if e := [5]api.Errno{get, scan, purge, count, all}; e != [5]api.Errno{} || v != "v" || len(l) != 1 || n != size || left != 1 || len(m) != 1 {
		t.Errorf("laid %d, %d versions: %v, %q, %v, %d, %d, %v", laid, size, e, v, l, n, left, m)
	}
}
