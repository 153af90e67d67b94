package key

import (
	"strings"
	"sync"
	"testing"

	"quorum/api"
)

func from(n int) api.Range { return api.Range{Low: strings.Repeat("k", n), Top: true} }

// R1, and the ways. It stands first, so that what is laid once is laid while
// many ask for it.
func TestManyAtOnce(t *testing.T) {
	const many = 32
	var told [many][3]api.Errno
	var group sync.WaitGroup
	for i := range many {
		group.Go(func() {
			told[i] = [3]api.Errno{Check(from(api.MaxKey + 1)), Check(from(api.MaxKey + 2)), Check(from(0))}
		})
	}
	group.Wait()
	for i, e := range told {
		if e != [3]api.Errno{api.OK, api.ErrForm, api.OK} {
			t.Errorf("%d: %v", i, e)
		}
	}
	if n := longest.Load(); n != api.MaxKey+1 {
		t.Errorf("laid: %d", n)
	}
}

// The variables stand beside the answers: whatever is in them, the answers
// are the same.
func TestNoAnswerHangsOnWhatIsLaid(t *testing.T) {
	Check(All())
	was := longest.Load()
	defer longest.Store(was)
	for _, n := range []int64{-1, 0, api.MaxKey, api.MaxKey + 2, 1 << 40} {
		longest.Store(n)
		for k, want := range map[int]api.Errno{0: api.OK, api.MaxKey: api.OK, api.MaxKey + 1: api.OK, api.MaxKey + 2: api.ErrForm} {
			for i, e := range allErrors(from(k)) {
				if e != want {
					t.Errorf("laid %d: %d bytes, call %d: %v, not %v", n, k, i, e, want)
				}
			}
		}
	}
}

func allErrors(r api.Range) []api.Errno {
	_, has := Has(r, "a")
	_, none := None(r)
	_, over := Over(r, All())
	_, overBack := Over(All(), r)
	_, in := In(r, All())
	_, inBack := In(All(), r)
	_, both := Both(r, All())
	_, bothBack := Both(All(), r)
	return []api.Errno{Check(r), has, none, over, overBack, in, inBack, both, bothBack}
}
