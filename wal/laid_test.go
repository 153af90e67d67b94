package wal

import (
	"math"
	"slices"
	"strconv"
	"strings"
	"sync"
	"testing"

	"quorum/api"
	"quorum/tape"
)

// sized is a map of one table, of n rows.
func sized(n int) [][]api.Row {
	var rows []api.Row
	for i := range n {
		rows = append(rows, api.Row{Key: "k" + strconv.Itoa(1000+i), Value: "v"})
	}
	return [][]api.Row{rows}
}

// R1, and the ways. It stands first, so that what is laid once is laid while
// many ask for it.
func TestManyAtOnce(t *testing.T) {
	const many = 32
	var told [many][4]api.Errno
	var group sync.WaitGroup
	for i := range many {
		group.Go(func() {
			for at, m := range [][][]api.Row{sized(api.MaxRooms), sized(api.MaxRooms + 1), nil, make([][]api.Row, api.MaxTables+1)} {
				_, _, told[i][at] = Format(m)
			}
		})
	}
	group.Wait()
	for i, e := range told {
		if e != [4]api.Errno{api.OK, api.ErrFull, api.OK, api.ErrForm} {
			t.Errorf("%d: %v", i, e)
		}
	}
	if n := most.Load(); n != api.MaxRooms {
		t.Errorf("laid: %d", n)
	}
}

// The variables stand beside the answers: whatever is in them, the answers
// are the same.
func TestNoAnswerHangsOnWhatIsLaid(t *testing.T) {
	Format(nil)
	was := most.Load()
	defer most.Store(was)
	for _, n := range []int64{math.MinInt64, -1, 0, 1, 2, api.MaxRooms - 1, api.MaxRooms + 1, math.MaxInt64} {
		most.Store(n)
		for _, size := range []int{0, 1, 2, api.MaxRooms - 1, api.MaxRooms} {
			wantAnswers(t, n, size)
		}
		for _, size := range []int{api.MaxRooms + 1, api.MaxRooms + 2, 4 * api.MaxRooms} {
			wantErrors(t, n, size)
		}
	}
}

func wantAnswers(t *testing.T, laid int64, size int) {
	t.Helper()
	m := sized(size)
	x, _ := tape.New(api.MaxTape)
	for _, at := range []api.Wal{{Run: 1, At: api.LogAt, Seq: 1}, {Run: 2, Slot: 1, At: api.LogAt, Seq: 1}} {
		l, w, e := Format(m)
		if at.Run == 2 {
			l, w, e = Save(w, m)
		}
		x, f := tape.Play(x, -1, l...)
		steps, y, g := Add(w, api.Record{Commit: 2})
		x, h := tape.Play(x, -1, append(steps, api.Do{Sync: true})...)
		told, records, z, i := Open(x, 1)
		behind, j := Map(m, api.Record{Commit: 2, Writes: []api.Write{{Key: "a"}}})
		if errs := [6]api.Errno{e, f, g, h, i, j}; errs != [6]api.Errno{} || w != at || y != z || z.At != api.LogAt+1 || !slices.Equal(told[0], m[0]) || len(records) != 1 || len(behind[0]) != size+1 {
			t.Errorf("laid %d, %d rows: %v, %v, %v, %v, %v, %v, %v", laid, size, errs, w, y, z, told, records, behind)
		}
	}
}

func wantErrors(t *testing.T, laid int64, size int) {
	t.Helper()
	m := sized(size)
	w := api.Wal{Run: 1, At: api.LogAt, Seq: 1}
	k, x, e := Format(m)
	l, y, f := Save(w, m)
	r := api.Record{Commit: 1, Writes: slices.Repeat([]api.Write{{Key: strings.Repeat("k", api.MaxKey)}}, size)}
	n, z, g := Add(w, r)
	behind, h := Map(m)
	none, i := Map(m, r)
	if errs := [5]api.Errno{e, f, g, h, i}; errs != [5]api.Errno{api.ErrFull, api.ErrFull, api.ErrForm, api.OK, api.ErrForm} || len(k)+len(l)+len(n)+len(none) != 0 || [3]api.Wal{x, y, z} != [3]api.Wal{} || len(behind[0]) != size {
		t.Errorf("laid %d, %d rows: %v, %v, %v, %v, %v, %v, %v, %v, %v", laid, size, errs, k, l, n, none, x, y, z, behind)
	}
}
