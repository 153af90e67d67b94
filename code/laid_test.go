package code

import (
	"math"
	"slices"
	"strings"
	"sync"
	"testing"

	"quorum/api"
)

// sized has n writes, all of one key.
func sized(n int) api.Record {
	r := api.Record{Commit: 7}
	for range n {
		r.Writes = append(r.Writes, api.Write{Key: "k", Value: "v"})
	}
	return r
}

// text is the bytes of sized.
func text(n int) string {
	return "\x00\x00\x00\x07\x00\x00\x00" + string([]byte{byte(n)}) + strings.Repeat("\x00\x00\x01k\x01v", n)
}

// R1, and the ways. It stands first, so that what is laid once is laid while
// many ask for it.
func TestManyAtOnce(t *testing.T) {
	const many = 32
	var told [many][4]api.Errno
	var group sync.WaitGroup
	for i := range many {
		group.Go(func() {
			told[i] = [4]api.Errno{Check(sized(api.MaxRooms)), Check(sized(api.MaxRooms + 1)), Check(sized(1)), Check(sized(0))}
		})
	}
	group.Wait()
	for i, e := range told {
		if e != [4]api.Errno{api.OK, api.ErrForm, api.OK, api.OK} {
			t.Errorf("%d: %v", i, e)
		}
	}
	if n := most.Load(); n != api.MaxRooms {
		t.Errorf("laid: %d", n)
	}
}

// The variables stand beside the answers: whatever is in them, the answers
// are the same.
func TestNoAnswerHangsOnWhatIsLaid(t *testing.T) {
	Check(sized(0))
	was := most.Load()
	defer most.Store(was)
	for _, n := range []int64{math.MinInt64, -1, 0, 1, 2, api.MaxRooms - 1, api.MaxRooms + 1, math.MaxInt64} {
		most.Store(n)
		for _, size := range []int{0, 1, 2, api.MaxRooms - 1, api.MaxRooms} {
			wantAnswers(t, n, size)
		}
		for _, size := range []int{api.MaxRooms + 1, api.MaxRooms + 2, 2 * api.MaxRooms} {
			wantErrors(t, n, size)
		}
	}
}

func wantAnswers(t *testing.T, laid int64, size int) {
	t.Helper()
	r := sized(size)
	b, e := Bytes(r)
	x, f := Take(text(size))
	l, g := Sectors(r, 1, 2)
	y, many, h := Read(l, 1, 2)
	if errs := [5]api.Errno{Check(r), e, f, g, h}; errs != [5]api.Errno{} || b != text(size) || !slices.Equal(x.Writes, r.Writes) ||
		len(l) != (len(b)+19)/20 || many != len(l) || len(y) != 1 || !slices.Equal(y[0].Writes, r.Writes) {
		t.Errorf("laid %d, %d writes: %v, %q, %v, %q, %v, %d", laid, size, errs, b, x, l, y, many)
	}
}

// Of Take there is another error than of the other calls; Read tells no record.
func wantErrors(t *testing.T, laid int64, size int) {
	t.Helper()
	r := sized(size)
	b, e := Bytes(r)
	x, f := Take(text(size))
	l, g := Sectors(r, 1, 2)
	if errs := [4]api.Errno{Check(r), e, f, g}; errs != [4]api.Errno{api.ErrForm, api.ErrForm, api.ErrBad, api.ErrForm} || b != "" || x.Commit != 0 || len(x.Writes)+len(l) != 0 {
		t.Errorf("laid %d, %d writes: %v, %q, %v, %q", laid, size, errs, b, x, l)
	}
}
