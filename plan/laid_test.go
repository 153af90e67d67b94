package plan

import (
	"math"
	"sync"
	"testing"

	"quorum/api"
)

func last() api.Op { return api.Op{Kind: api.OpGet, Table: api.MaxTables - 1, Key: "k"} }

// R1, and the ways. It stands first, so that what is laid once is laid while
// many ask for it.
func TestManyAtOnce(t *testing.T) {
	const many = 32
	var told [many][4]api.Errno
	var group sync.WaitGroup
	for i := range many {
		group.Go(func() {
			for at, n := range []int{api.MaxTables, api.MaxTables + 1, 1, 0} {
				told[i][at] = Check(last(), n)
			}
		})
	}
	group.Wait()
	for i, e := range told {
		if e != [4]api.Errno{api.OK, api.ErrForm, api.ErrForm, api.ErrForm} {
			t.Errorf("%d: %v", i, e)
		}
	}
	if n := most.Load(); n != api.MaxTables {
		t.Errorf("laid: %d", n)
	}
}

// The variables stand beside the answers: whatever is in them, the answers
// are the same.
func TestNoAnswerHangsOnWhatIsLaid(t *testing.T) {
	Check(last(), 1)
	was := most.Load()
	defer most.Store(was)
	for _, n := range []int64{math.MinInt64, -1, 0, 1, 2, api.MaxTables - 1, api.MaxTables + 1, math.MaxInt64} {
		most.Store(n)
		wantAnswers(t, n)
	}
}

func wantAnswers(t *testing.T, laid int64) {
	t.Helper()
	behind := last()
	behind.Table++
	for tables := -1; tables <= 2*api.MaxTables; tables++ {
		if e := Check(last(), tables); (e == api.OK) != (tables == api.MaxTables) {
			t.Errorf("laid %d, of %d tables: %v", laid, tables, e)
		}
		if e := Check(behind, tables); e != api.ErrForm {
			t.Errorf("laid %d, of %d tables, behind: %v", laid, tables, e)
		}
		if e := Check(api.Op{Kind: api.OpSave}, tables); (e == api.OK) != (tables >= 1 && tables <= api.MaxTables) {
			t.Errorf("laid %d, of %d tables, Save: %v", laid, tables, e)
		}
	}
	l, e := Locks(last(), api.Pend{}, 1)
	none, f := Locks(behind, api.Pend{}, 1)
	if len(l) != 1 || len(none) > 0 || e != api.OK || f != api.ErrForm || Writes(last()) {
		t.Errorf("laid %d: %v, %v, %v, %v", laid, l, e, none, f)
	}
}
