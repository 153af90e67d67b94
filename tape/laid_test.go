package tape

import (
	"math"
	"slices"
	"strings"
	"sync"
	"testing"

	"quorum/api"
)

// waiting has one sector, and n that wait.
func waiting(n int) api.Tape {
	s := strings.Repeat("s", api.Sector)
	return api.Tape{Sectors: []string{s}, Waits: slices.Repeat([]api.Put{{Text: s}}, n)}
}

// R1, and the ways. It stands first, so that what is laid once is laid while
// many ask for it.
func TestManyAtOnce(t *testing.T) {
	const many = 32
	var told [many][4]api.Errno
	var group sync.WaitGroup
	for i := range many {
		group.Go(func() {
			told[i] = [4]api.Errno{Check(waiting(4 * api.MaxTape)), Check(waiting(4*api.MaxTape + 1)), Check(waiting(0)), Check(api.Tape{})}
		})
	}
	group.Wait()
	for i, e := range told {
		if e != [4]api.Errno{api.OK, api.ErrForm, api.OK, api.ErrForm} {
			t.Errorf("%d: %v", i, e)
		}
	}
	if n := most.Load(); n != 4*api.MaxTape {
		t.Errorf("laid: %d", n)
	}
}

// The variables stand beside the answers: whatever is in them, the answers
// are the same.
func TestNoAnswerHangsOnWhatIsLaid(t *testing.T) {
	Check(waiting(0))
	was := most.Load()
	defer most.Store(was)
	for _, n := range []int64{math.MinInt64, -1, 0, 1, 2, 4*api.MaxTape - 1, 4*api.MaxTape + 1, math.MaxInt64} {
		most.Store(n)
		for _, size := range []int{0, 1, 2, 4*api.MaxTape - 1, 4 * api.MaxTape} {
			wantAnswers(t, n, size)
		}
		for _, size := range []int{4*api.MaxTape + 1, 4*api.MaxTape + 2, 8 * api.MaxTape} {
			wantErrors(t, n, size)
		}
	}
}

func wantAnswers(t *testing.T, laid int64, size int) {
	t.Helper()
	x := waiting(size)
	made, e := New(1)
	s, f := Read(x, 0)
	y, g := Play(x, -1)
	z, h := Crash(x, 1)
	n, i := Waits(x)
	if errs := [6]api.Errno{Check(x), e, f, g, h, i}; errs != [6]api.Errno{} || len(made.Sectors) != 1 || s != x.Sectors[0] || len(y.Waits) != size || len(z.Sectors) != 1 || n != size {
		t.Errorf("laid %d, %d wait: %v, %v, %q, %d, %v, %d", laid, size, errs, made, s, len(y.Waits), z, n)
	}
	want := api.OK
	if size == 4*api.MaxTape {
		want = api.ErrLimit
	}
	if _, e := Play(x, -1, api.Do{Put: api.Put{Text: x.Sectors[0]}}); e != want {
		t.Errorf("laid %d, %d wait, one more: %v, not %v", laid, size, e, want)
	}
}

func wantErrors(t *testing.T, laid int64, size int) {
	t.Helper()
	x := waiting(size)
	s, e := Read(x, 0)
	y, f := Play(x, -1)
	z, g := Crash(x, 1)
	n, h := Waits(x)
	if errs := [5]api.Errno{Check(x), e, f, g, h}; errs != [5]api.Errno{api.ErrForm, api.ErrForm, api.ErrForm, api.ErrForm, api.ErrForm} || s != "" || len(y.Sectors)+len(y.Waits)+len(z.Sectors)+len(z.Waits) != 0 || n != 0 {
		t.Errorf("laid %d, %d wait: %v, %q, %v, %v, %d", laid, size, errs, s, y, z, n)
	}
}
