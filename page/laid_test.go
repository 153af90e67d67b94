package page

import (
	"strings"
	"sync"
	"testing"

	"quorum/api"
)

// sized has one record, and n bytes in all.
func sized(n int) api.Page {
	return api.Page{Slots: []string{strings.Repeat("x", n-slotBytes)}}
}

// R1, and the ways. It stands first, so that what is laid once is laid while
// many ask for it.
func TestManyAtOnce(t *testing.T) {
	const many = 32
	var told [many][3]api.Errno
	var group sync.WaitGroup
	for i := range many {
		group.Go(func() {
			told[i] = [3]api.Errno{Check(sized(api.MaxPage)), Check(sized(api.MaxPage + 1)), Check(api.Page{})}
		})
	}
	group.Wait()
	for i, e := range told {
		if e != [3]api.Errno{api.OK, api.ErrForm, api.OK} {
			t.Errorf("%d: %v", i, e)
		}
	}
	if n := most.Load(); n != api.MaxPage {
		t.Errorf("laid: %d", n)
	}
}

// The variables stand beside the answers: whatever is in them, the answers
// are the same.
func TestNoAnswerHangsOnWhatIsLaid(t *testing.T) {
	Check(api.Page{})
	was := most.Load()
	defer most.Store(was)
	for _, n := range []int64{-1, 0, api.MaxPage - 1, api.MaxPage + 1, 1 << 40} {
		most.Store(n)
		wantErrors(t, n, slotBytes, api.OK, api.OK, api.OK)
		wantErrors(t, n, api.MaxPage-slotBytes, api.OK, api.OK, api.OK)
		wantErrors(t, n, api.MaxPage-1, api.OK, api.ErrFull, api.OK)
		wantErrors(t, n, api.MaxPage, api.OK, api.ErrFull, api.ErrFull)
		wantErrors(t, n, api.MaxPage+1, api.ErrForm, api.ErrForm, api.ErrForm)
	}
}

// Add is of an empty record, Set of a record with a byte more.
func wantErrors(t *testing.T, laid int64, bytes int, want, added, longer api.Errno) {
	t.Helper()
	p := sized(bytes)
	_, _, add := Add(p, "")
	_, set := Set(p, 0, p.Slots[0]+"x")
	if add != added || set != longer {
		t.Errorf("laid %d, %d bytes: Add %v, Set %v, not %v, %v", laid, bytes, add, set, added, longer)
	}
	_, count := Bytes(p)
	_, get := Get(p, 0)
	_, same := Set(p, 0, p.Slots[0])
	_, cut := Cut(p, 0)
	for i, e := range []api.Errno{Check(p), count, get, same, cut} {
		if e != want {
			t.Errorf("laid %d, %d bytes, call %d: %v, not %v", laid, bytes, i, e, want)
		}
	}
}
