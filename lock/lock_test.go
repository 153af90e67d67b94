package lock_test

import (
	"math"
	"slices"
	"strings"
	"testing"

	"quorum/api"
	"quorum/key"
	"quorum/lock"
)

func to(low, high string) api.Range { return api.Range{Low: low, High: high} }

func top(low string) api.Range { return api.Range{Low: low, Top: true} }

// of is one lock: owner, table, range, mode.
func of(owner, table int, r api.Range, m int) api.Lock {
	return api.Lock{Owner: owner, Table: table, Keys: r, Mode: m}
}

func modes() []int { return []int{api.ModeR, api.ModeW, api.ModeC} }

// some are locks of three owners on all tables, on two of which owners meet.
func some() []api.Lock {
	return []api.Lock{
		of(7, 0, to("b", "f"), api.ModeR),
		of(3, 0, to("d", "h"), api.ModeW),
		of(7, 1, top("m"), api.ModeC),
		of(3, 1, to("a", "m"), api.ModeW),
		of(0, 0, to("x", "z"), api.ModeC),
		of(3, 0, to("d", "e"), api.ModeR),
		of(0, 2, to("k", "k"), api.ModeC),
	}
}

// readers are n owners, 0 and on, that all read all of table 0.
func readers(n int) []api.Lock {
	var l []api.Lock
	for i := range n {
		l = append(l, of(i, 0, top(""), api.ModeR))
	}
	return l
}

func badLocks() []api.Lock {
	r := to("a", "b")
	l := []api.Lock{{}}
	for _, owner := range []int{-1, math.MinInt, api.MaxNum + 1, math.MaxInt} {
		l = append(l, of(owner, 0, r, api.ModeR))
	}
	for _, table := range []int{-1, math.MinInt, api.MaxTables, math.MaxInt} {
		l = append(l, of(0, table, r, api.ModeR))
	}
	for _, m := range []int{api.ModeNone, -1, math.MinInt, api.ModeC + 1, math.MaxInt} {
		l = append(l, of(0, 0, r, m))
	}
	long := strings.Repeat("k", api.MaxKey+2)
	for _, r := range []api.Range{to("b", "a"), to("a", ""), {Low: "a", High: "b", Top: true}, top(long), to("", long)} {
		l = append(l, of(0, 0, r, api.ModeR))
	}
	return l
}

// badLists: of single locks that may be, but not beside each other.
func badLists() [][]api.Lock {
	r := to("b", "d")
	lists := [][]api.Lock{readers(api.MaxLocks + 1), readers(2 * api.MaxLocks)}
	for _, a := range modes() {
		for _, b := range modes() {
			lists = append(lists, []api.Lock{of(1, 0, r, a), of(1, 0, r, b)})
			if !fits(a, b) {
				lists = append(lists,
					[]api.Lock{of(1, 0, r, a), of(2, 0, r, b)},
					[]api.Lock{of(2, 2, top(""), a), of(1, 2, to("", "\x00"), b)},
					[]api.Lock{of(0, 1, to("a", "b\x00"), a), of(api.MaxNum, 1, r, b)})
			}
		}
	}
	twice := append(some(), some()[3])
	apart := append(some(), of(9, 0, to("g", "i"), api.ModeC))
	return append(lists, twice, apart, append(apart, of(9, 2, r, api.ModeR)))
}

func fits(a, b int) bool {
	pairs := [][2]int{{api.ModeR, api.ModeR}, {api.ModeR, api.ModeW}, {api.ModeW, api.ModeR}}
	return slices.Contains(pairs, [2]int{a, b})
}

// Errors

type errnos struct{ check, block, take, free, covers, of, count api.Errno }

// ask calls each one, and holds what is beside an error to be zero.
func ask(t *testing.T, l []api.Lock, x api.Lock, o int) errnos {
	t.Helper()
	owners, block := lock.Block(l, x)
	taken, take := lock.Take(l, x)
	left, free := lock.Free(l, o)
	covered, covers := lock.Covers(l, x)
	own, of := lock.Of(l, o)
	n, count := lock.Count(l, o)
	if block != api.OK && len(owners) > 0 || take != api.OK && len(taken) > 0 || free != api.OK && len(left) > 0 ||
		covers != api.OK && covered || of != api.OK && len(own) > 0 || count != api.OK && n != 0 {
		t.Errorf("%v, %v, %d: beside an error: %v, %v, %v, %v, %v, %d", l, x, o, owners, taken, left, covered, own, n)
	}
	return errnos{lock.Check(l), block, take, free, covers, of, count}
}

func allForm() errnos {
	return errnos{api.ErrForm, api.ErrForm, api.ErrForm, api.ErrForm, api.ErrForm, api.ErrForm, api.ErrForm}
}

func TestListsThatMayBe(t *testing.T) {
	r := to("b", "d")
	for i, l := range [][]api.Lock{
		nil, {}, some(), readers(1), readers(api.MaxLocks),
		{of(0, 0, r, api.ModeR)}, {of(api.MaxNum, api.MaxTables-1, r, api.ModeC)}, {of(0, 0, api.Range{}, api.ModeW)},
		{of(1, 0, r, api.ModeR), of(2, 0, r, api.ModeW)}, {of(1, 0, r, api.ModeW), of(2, 0, r, api.ModeR)},
		{of(1, 0, r, api.ModeC), of(2, 1, r, api.ModeC), of(3, 2, r, api.ModeC)},
		{of(1, 0, r, api.ModeC), of(1, 1, r, api.ModeC)},
		{of(1, 0, to("a", "b"), api.ModeC), of(2, 0, r, api.ModeC), of(3, 0, top("d"), api.ModeC)},
		{of(1, 0, r, api.ModeC), of(1, 0, to("b", "c"), api.ModeC), of(1, 0, top(""), api.ModeW), of(1, 0, top("b"), api.ModeR)},
		{of(1, 0, top(""), api.ModeC), of(1, 0, api.Range{}, api.ModeC)},
		{of(1, 0, to("c", "c"), api.ModeC), of(2, 0, top(""), api.ModeC), of(3, 0, to("c", "c"), api.ModeC)},
	} {
		if e := lock.Check(l); e != api.OK {
			t.Errorf("%d: %v", i, e)
		}
		e := ask(t, l, of(99, 0, to("q", "q"), api.ModeR), 1)
		if len(l) == api.MaxLocks && e.take == api.ErrFull {
			e.take = api.OK
		}
		if e != (errnos{}) {
			t.Errorf("%d: %v", i, e)
		}
	}
}

func TestListsThatMayNotBe(t *testing.T) {
	good := of(9, 0, to("q", "r"), api.ModeR)
	lists := badLists()
	for _, x := range badLocks() {
		lists = append(lists, []api.Lock{x}, []api.Lock{good, x}, []api.Lock{x, good}, append(some(), x))
	}
	for i, l := range lists {
		if e := ask(t, l, good, 1); e != allForm() {
			t.Errorf("%d: %v", i, e)
		}
		back := slices.Clone(l)
		slices.Reverse(back)
		if e := ask(t, back, good, 1); e != allForm() {
			t.Errorf("%d, backwards: %v", i, e)
		}
	}
}

func TestAskedForMayNotBe(t *testing.T) {
	for _, x := range badLocks() {
		for _, l := range [][]api.Lock{nil, some(), readers(api.MaxLocks)} {
			if e := ask(t, l, x, 1); e != (errnos{block: api.ErrForm, take: api.ErrForm, covers: api.ErrForm}) {
				t.Errorf("%v: %v", x, e)
			}
		}
	}
}

// R4: ErrForm ahead of ErrBlock, ErrBlock ahead of ErrFull.
func TestFirstErrorIsTold(t *testing.T) {
	full := readers(api.MaxLocks)
	for i, c := range []struct {
		l    []api.Lock
		x    api.Lock
		want api.Errno
	}{
		{readers(api.MaxLocks + 1), of(3, 0, to("a", "b"), api.ModeC), api.ErrForm},
		{full, of(-1, 0, top(""), api.ModeC), api.ErrForm},
		{full, of(3, 0, top(""), api.ModeC+1), api.ErrForm},
		{full, of(3, 0, to("a", "b"), api.ModeC), api.ErrBlock},
		{full, of(3, 0, top(""), api.ModeC), api.ErrBlock},
		{full, of(api.MaxLocks, 0, top(""), api.ModeC), api.ErrBlock},
		{full, of(3, 0, to("a", "b"), api.ModeR), api.ErrFull},
		{full, of(3, 0, to("a", "b"), api.ModeW), api.ErrFull},
		{full, of(3, 1, top(""), api.ModeC), api.ErrFull},
		{full, of(api.MaxLocks, 0, top(""), api.ModeR), api.ErrFull},
		{full, of(3, 0, to("a", "a"), api.ModeC), api.ErrFull},
	} {
		if l, e := lock.Take(c.l, c.x); len(l) != 0 || e != c.want {
			t.Errorf("%d: %d locks, %v, not %v", i, len(l), e, c.want)
		}
	}
}

// P3.1

func TestBlock(t *testing.T) {
	for i, c := range []struct {
		x    api.Lock
		want []int
	}{
		{of(1, 0, to("b", "d"), api.ModeR), nil},
		{of(1, 0, to("b", "d"), api.ModeW), nil},
		{of(1, 0, to("b", "d"), api.ModeC), []int{7}},
		{of(1, 0, to("b", "d\x00"), api.ModeC), []int{3, 7}},
		{of(1, 0, to("b", "d\x00"), api.ModeW), []int{3}},
		{of(1, 0, to("d", "e"), api.ModeR), nil},
		{of(1, 0, to("a", "b"), api.ModeC), nil},
		{of(1, 0, to("h", "x"), api.ModeC), nil},
		{of(1, 0, to("h", "x\x00"), api.ModeR), []int{0}},
		{of(1, 0, top("z"), api.ModeC), nil},
		{of(1, 0, top(""), api.ModeC), []int{0, 3, 7}},
		{of(7, 0, top(""), api.ModeC), []int{0, 3}},
		{of(7, 0, top(""), api.ModeW), []int{0, 3}},
		{of(7, 0, top(""), api.ModeR), []int{0}},
		{of(3, 0, top(""), api.ModeC), []int{0, 7}},
		{of(0, 0, top(""), api.ModeR), nil},
		{of(1, 1, top("zz"), api.ModeR), []int{7}},
		{of(1, 1, to("a", "m"), api.ModeR), nil},
		{of(1, 1, top(""), api.ModeR), []int{7}},
		{of(1, 1, top(""), api.ModeW), []int{3, 7}},
		{of(1, 2, top(""), api.ModeC), nil},
		{of(1, 0, to("y", "y"), api.ModeC), nil},
		{of(api.MaxNum, 0, to("y", "y\x00"), api.ModeR), []int{0}},
	} {
		if o, e := lock.Block(some(), c.x); !slices.Equal(o, c.want) || e != api.OK {
			t.Errorf("%d: %v, %v", i, o, e)
		}
		l, e := lock.Take(some(), c.x)
		if len(c.want) > 0 {
			if len(l) != 0 || e != api.ErrBlock {
				t.Errorf("%d: %v, %v", i, l, e)
			}
		} else if !slices.Equal(l, append(some(), c.x)) || e != api.OK {
			t.Errorf("%d: %v, %v", i, l, e)
		}
	}
}

func TestBlockTellsEachOnceRising(t *testing.T) {
	var l []api.Lock
	for _, o := range []int{api.MaxNum, 4, 0, 9} {
		for _, r := range []api.Range{to("c", "e"), to("a", "b"), top("")} {
			l = append(l, of(o, 2, r, api.ModeR))
		}
	}
	x := of(4, 2, to("a", "d"), api.ModeC)
	if o, e := lock.Block(l, x); !slices.Equal(o, []int{0, 9, api.MaxNum}) || e != api.OK {
		t.Errorf("%v, %v", o, e)
	}
	if o, e := lock.Block(readers(api.MaxLocks), of(0, 0, to("a", "b"), api.ModeC)); len(o) != api.MaxLocks-1 || !slices.IsSorted(o) || e != api.OK {
		t.Errorf("%v, %v", o, e)
	}
}

func TestTwoOwners(t *testing.T) {
	for _, a := range modes() {
		for _, b := range modes() {
			l := []api.Lock{of(1, 0, to("b", "d"), a)}
			for _, c := range []struct {
				table int
				r     api.Range
				meet  bool
			}{
				{0, to("b", "d"), true}, {0, to("c\xff", "z"), true}, {0, to("", "b\x00"), true}, {0, top(""), true}, {0, top("c"), true},
				{0, to("a", "b"), false}, {0, to("d", "e"), false}, {0, top("d"), false}, {0, to("c", "c"), false}, {1, to("b", "d"), false}, {2, top(""), false},
			} {
				x := of(2, c.table, c.r, b)
				free := !c.meet || fits(a, b)
				o, e := lock.Block(l, x)
				if (len(o) == 0) != free || e != api.OK {
					t.Errorf("%d, %v: %v, %v", a, x, o, e)
				}
				if e := lock.Check(append(slices.Clone(l), x)); (e == api.OK) != free {
					t.Errorf("%d, %v: %v", a, x, e)
				}
				if _, e := lock.Take(l, x); (e == api.OK) != free {
					t.Errorf("%d, %v: %v", a, x, e)
				}
			}
		}
	}
}

// The example of the chapter.
func TestWriteBesideRead(t *testing.T) {
	l, e := lock.Take([]api.Lock{of(1, 0, to("a", "b"), api.ModeR)}, of(2, 0, to("a", "b"), api.ModeW))
	if len(l) != 2 || e != api.OK {
		t.Errorf("%v, %v", l, e)
	}
}

func TestOwnIsRaisedInItsPlace(t *testing.T) {
	for _, a := range modes() {
		for _, b := range modes() {
			l := []api.Lock{of(5, 1, to("a", "b"), api.ModeC), of(4, 0, to("a", "b"), a), of(4, 0, to("a", "c"), api.ModeR)}
			want := slices.Clone(l)
			want[1].Mode = max(a, b)
			got, e := lock.Take(l, of(4, 0, to("a", "b"), b))
			if !slices.Equal(got, want) || e != api.OK {
				t.Errorf("%d, %d: %v, %v", a, b, got, e)
			}
		}
	}
}

func TestOwnIsNotRaisedIfBlocked(t *testing.T) {
	l := []api.Lock{of(4, 0, to("a", "b"), api.ModeR), of(5, 0, to("a", "b"), api.ModeW)}
	for m, want := range map[int]api.Errno{api.ModeR: api.OK, api.ModeW: api.ErrBlock, api.ModeC: api.ErrBlock} {
		got, e := lock.Take(l, of(4, 0, to("a", "b"), m))
		if e != want || e == api.OK && !slices.Equal(got, l) || e != api.OK && len(got) > 0 {
			t.Errorf("%d: %v, %v", m, got, e)
		}
	}
}

func TestOnlySameOwnerTableAndRangeIsRaised(t *testing.T) {
	l := []api.Lock{of(4, 0, to("a", "c"), api.ModeR), of(4, 0, top("a"), api.ModeR), of(4, 2, top(""), api.ModeR)}
	for _, x := range []api.Lock{
		of(5, 0, to("a", "c"), api.ModeW), of(4, 1, to("a", "c"), api.ModeW), of(4, 0, to("a", "b"), api.ModeW),
		of(4, 0, to("b", "c"), api.ModeR), of(4, 0, top(""), api.ModeC), of(4, 0, to("a", "a"), api.ModeC), of(4, 2, api.Range{}, api.ModeC),
	} {
		if got, e := lock.Take(l, x); !slices.Equal(got, append(slices.Clone(l), x)) || e != api.OK {
			t.Errorf("%v: %v, %v", x, got, e)
		}
	}
}

func TestTakeUpToTheLimit(t *testing.T) {
	var l []api.Lock
	for i := range api.MaxLocks {
		var e api.Errno
		x := of(i, i%api.MaxTables, to("a", "b"), api.ModeR)
		l, e = lock.Take(l, x)
		if len(l) != i+1 || l[i] != x || e != api.OK {
			t.Fatalf("%d: %d locks, %v", i, len(l), e)
		}
	}
	if got, e := lock.Take(l, of(api.MaxLocks, 0, to("a", "b"), api.ModeR)); len(got) != 0 || e != api.ErrFull {
		t.Errorf("one more: %d locks, %v", len(got), e)
	}
	want := slices.Clone(l)
	want[8].Mode = api.ModeW
	if got, e := lock.Take(l, of(8, 8%api.MaxTables, to("a", "b"), api.ModeW)); !slices.Equal(got, want) || e != api.OK {
		t.Errorf("raised: %d locks, %v", len(got), e)
	}
	l, e := lock.Free(l, 8)
	if len(l) != api.MaxLocks-1 || e != api.OK {
		t.Errorf("freed: %d locks, %v", len(l), e)
	}
	if got, e := lock.Take(l, of(api.MaxLocks, 0, to("a", "b"), api.ModeR)); len(got) != api.MaxLocks || e != api.OK {
		t.Errorf("again: %d locks, %v", len(got), e)
	}
}

func TestTakeAtTheNumbersLimits(t *testing.T) {
	for _, owner := range []int{0, api.MaxNum} {
		for _, table := range []int{0, api.MaxTables - 1} {
			for _, r := range []api.Range{{}, top(""), top(strings.Repeat("\xff", api.MaxKey+1)), to("", strings.Repeat("\xff", api.MaxKey+1))} {
				x := of(owner, table, r, api.ModeC)
				if l, e := lock.Take(nil, x); !slices.Equal(l, []api.Lock{x}) || e != api.OK {
					t.Errorf("%v: %v, %v", x, l, e)
				}
			}
		}
	}
}

func TestFree(t *testing.T) {
	s := some()
	for o, want := range map[int][]api.Lock{
		0: {s[0], s[1], s[2], s[3], s[5]}, 3: {s[0], s[2], s[4], s[6]}, 7: {s[1], s[3], s[4], s[5], s[6]},
		1: s, api.MaxNum: s, api.MaxNum + 1: s, math.MaxInt: s,
	} {
		if l, e := lock.Free(some(), o); !slices.Equal(l, want) || e != api.OK {
			t.Errorf("%d: %v, %v", o, l, e)
		}
	}
	if l, e := lock.Free(readers(1), 0); len(l) != 0 || e != api.OK {
		t.Errorf("the last one: %v, %v", l, e)
	}
}

func TestFreeBelowNothing(t *testing.T) {
	for _, o := range []int{-1, math.MinInt} {
		for _, l := range [][]api.Lock{nil, some(), readers(api.MaxLocks)} {
			if left, e := lock.Free(l, o); len(left) != 0 || e != api.ErrForm {
				t.Errorf("%d: %v, %v", o, left, e)
			}
		}
	}
}

// P3.2

func TestCovers(t *testing.T) {
	l := []api.Lock{of(1, 0, to("b", "m"), api.ModeW), of(1, 0, to("k", "q"), api.ModeR), of(1, 1, top("b"), api.ModeC), of(2, 0, top("c"), api.ModeR), of(0, 2, to("d", "d"), api.ModeR)}
	for i, c := range []struct {
		x    api.Lock
		want bool
	}{
		{of(1, 0, to("b", "m"), api.ModeR), true}, {of(1, 0, to("b", "m"), api.ModeW), true}, {of(1, 0, to("b", "m"), api.ModeC), false},
		{of(1, 0, to("c", "d"), api.ModeW), true}, {of(1, 0, to("b", "b\x00"), api.ModeW), true}, {of(1, 0, to("a\xff", "c"), api.ModeR), false},
		{of(1, 0, to("b", "m\x00"), api.ModeW), false}, {of(1, 0, to("l", "n"), api.ModeR), true}, {of(1, 0, to("l", "n"), api.ModeW), false},
		{of(1, 0, to("b", "q"), api.ModeR), false}, {of(1, 0, top("k"), api.ModeR), false}, {of(1, 0, to("b", "b"), api.ModeW), true},
		{of(1, 0, to("m", "m"), api.ModeW), true}, {of(1, 0, to("z", "z"), api.ModeR), false},
		{of(1, 1, top("b"), api.ModeC), true}, {of(1, 1, to("b", "z"), api.ModeC), true}, {of(1, 1, top(""), api.ModeR), false}, {of(1, 1, top("c"), api.ModeR), true},
		{of(1, 2, to("b", "m"), api.ModeR), false}, {of(3, 0, to("c", "d"), api.ModeR), false},
		{of(2, 0, to("c", "d"), api.ModeR), true}, {of(2, 0, to("b", "d"), api.ModeR), false}, {of(2, 0, to("c", "d"), api.ModeW), false}, {of(2, 1, to("c", "d"), api.ModeR), false},
		{of(0, 2, to("d", "d"), api.ModeR), true}, {of(0, 2, to("d", "d\x00"), api.ModeR), false},
	} {
		if is, e := lock.Covers(l, c.x); is != c.want || e != api.OK {
			t.Errorf("%d: %v, %v", i, is, e)
		}
		if is, e := lock.Covers(nil, c.x); is || e != api.OK {
			t.Errorf("%d, of none: %v, %v", i, is, e)
		}
	}
}

func TestOfAndCount(t *testing.T) {
	s := some()
	for o, want := range map[int][]api.Lock{
		0: {s[4], s[6]}, 3: {s[1], s[3], s[5]}, 7: {s[0], s[2]},
		1: nil, -1: nil, -7: nil, api.MaxNum: nil, api.MaxNum + 1: nil, math.MinInt: nil, math.MaxInt: nil,
	} {
		l, e := lock.Of(some(), o)
		n, g := lock.Count(some(), o)
		if !slices.Equal(l, want) || e != api.OK || n != len(want) || g != api.OK {
			t.Errorf("%d: %v, %v, %d, %v", o, l, e, n, g)
		}
	}
	l, e := lock.Of(nil, 0)
	n, g := lock.Count(nil, 0)
	if len(l) != 0 || e != api.OK || n != 0 || g != api.OK {
		t.Errorf("of none: %v, %v, %d, %v", l, e, n, g)
	}
}

// P3.3

// walk takes and frees locks, one behind the other, by numbers that are the
// same in each run, and shows each step.
func walk(steps int, show func(before []api.Lock, x api.Lock, after []api.Lock, e api.Errno)) {
	ranges := []api.Range{to("a", "b"), to("a", "c"), to("b", "c"), to("b", "b"), to("b", "d"), top("b"), top("c"), top(""), to("", "a"), to("c", "d")}
	n := uint32(1)
	next := func(below int) int {
		n = n*1664525 + 1013904223
		return int(n>>16) % below
	}
	var l []api.Lock
	for range steps {
		x := of(next(4), next(2), ranges[next(len(ranges))], 1+next(api.ModeC))
		after, e := lock.Take(l, x)
		show(l, x, after, e)
		if e == api.OK {
			l = after
		}
		if next(5) == 0 {
			l, _ = lock.Free(l, next(4))
		}
	}
}

func TestWhatIsTakenIsCovered(t *testing.T) {
	walk(2000, func(before []api.Lock, x api.Lock, after []api.Lock, e api.Errno) {
		if e != api.OK {
			return
		}
		if lock.Check(after) != api.OK {
			t.Errorf("%v may not be", after)
		}
		for _, m := range modes() {
			less := x
			less.Mode = m
			if is, e := lock.Covers(after, less); m <= x.Mode && !is || e != api.OK {
				t.Errorf("%v does not cover %v: %v", after, less, e)
			}
		}
	})
}

func TestFreedItBlocksNobody(t *testing.T) {
	walk(500, func(before []api.Lock, x api.Lock, after []api.Lock, e api.Errno) {
		if e != api.OK {
			return
		}
		free, e := lock.Free(after, x.Owner)
		if e != api.OK || lock.Check(free) != api.OK {
			t.Fatalf("%v, %v", free, e)
		}
		was, _ := lock.Free(before, x.Owner)
		if n, _ := lock.Count(free, x.Owner); n != 0 || !slices.Equal(free, was) {
			t.Errorf("%v: %v, not %v", x, free, was)
		}
		for table := range api.MaxTables {
			o, e := lock.Block(free, of(99, table, key.All(), api.ModeC))
			if slices.Contains(o, x.Owner) || e != api.OK {
				t.Errorf("%v: %v, %v", x, o, e)
			}
		}
	})
}

func TestWhatIsTakenBlocksWhoDoesNotFit(t *testing.T) {
	walk(500, func(before []api.Lock, x api.Lock, after []api.Lock, e api.Errno) {
		none, _ := key.None(x.Keys)
		if e != api.OK || none {
			return
		}
		for _, m := range modes() {
			o, e := lock.Block(after, of(99, x.Table, x.Keys, m))
			if !fits(m, x.Mode) && !slices.Contains(o, x.Owner) || e != api.OK {
				t.Errorf("%v, %v: %v, %v", after, x, o, e)
			}
		}
	})
}

// The walk's answers held against the words of the chapter, bound by bound.
func TestWalkByNumbers(t *testing.T) {
	end := func(r api.Range) string {
		if r.Top {
			return "\xff"
		}
		return r.High
	}
	told := map[api.Errno]int{}
	walk(2000, func(before []api.Lock, x api.Lock, after []api.Lock, e api.Errno) {
		told[e]++
		in := map[int]int{}
		want := slices.Clone(before)
		at := len(before)
		for i, held := range before {
			over := max(held.Keys.Low, x.Keys.Low) < min(end(held.Keys), end(x.Keys))
			if held.Owner != x.Owner && held.Table == x.Table && over && !fits(held.Mode, x.Mode) {
				in[held.Owner]++
			}
			if held.Owner == x.Owner && held.Table == x.Table && held.Keys == x.Keys {
				at = i
			}
		}
		o, _ := lock.Block(before, x)
		if len(o) != len(in) || (e == api.OK) != (len(in) == 0) {
			t.Errorf("%v, %v: %v, not %v: %v", before, x, o, in, e)
		}
		for i, owner := range o {
			if in[owner] == 0 || i > 0 && o[i-1] >= owner {
				t.Errorf("%v, %v: %v, not %v", before, x, o, in)
			}
		}
		if e != api.OK {
			return
		}
		if at == len(before) {
			want = append(want, x)
		}
		want[at].Mode = max(want[at].Mode, x.Mode)
		if !slices.Equal(after, want) {
			t.Errorf("%v, %v: %v, not %v", before, x, after, want)
		}
	})
	if told[api.OK] < 200 || told[api.ErrBlock] < 200 {
		t.Errorf("the walk is not one of both: %v", told)
	}
}

// R2

// roomy has spare room behind its end, with a mark in it.
func roomy() []api.Lock {
	l := append(some(), of(77, 2, to("u", "v"), api.ModeW))
	return l[:len(some())]
}

func TestHandedInStaysAsItIs(t *testing.T) {
	l := roomy()
	lock.Check(l)
	lock.Block(l, of(1, 0, top(""), api.ModeC))
	lock.Take(l, of(1, 2, top(""), api.ModeC))
	lock.Take(l, of(3, 0, to("d", "e"), api.ModeW))
	lock.Take(l[:0], of(1, 2, top(""), api.ModeC))
	lock.Free(l, 7)
	lock.Covers(l, of(7, 1, top("n"), api.ModeR))
	lock.Of(l, 3)
	lock.Count(l, 3)
	if !slices.Equal(l, some()) {
		t.Errorf("%v", l)
	}
	if mark := l[:len(l)+1][len(l)]; mark.Owner != 77 {
		t.Errorf("behind its end: %v", mark)
	}
}

func TestAnswersAreCopies(t *testing.T) {
	l := roomy()
	for i, give := range []func() ([]api.Lock, api.Errno){
		func() ([]api.Lock, api.Errno) { return lock.Take(l, of(1, 2, top(""), api.ModeC)) },
		func() ([]api.Lock, api.Errno) { return lock.Take(l, of(3, 0, to("d", "e"), api.ModeR)) },
		func() ([]api.Lock, api.Errno) { return lock.Take(l[:0], of(3, 0, to("d", "e"), api.ModeR)) },
		func() ([]api.Lock, api.Errno) { return lock.Free(l, 1) },
		func() ([]api.Lock, api.Errno) { return lock.Free(l, 0) },
		func() ([]api.Lock, api.Errno) { return lock.Free(l[:0], 0) },
		func() ([]api.Lock, api.Errno) { return lock.Of(l[:1], 7) },
		func() ([]api.Lock, api.Errno) { return lock.Of(l, 7) },
	} {
		first, e := give()
		again, _ := give()
		was := slices.Clone(again)
		whole := first[:cap(first)]
		for k := range whole {
			whole[k] = of(88, 0, to("s", "t"), api.ModeC)
		}
		if e != api.OK || !slices.Equal(again, was) || !slices.Equal(l, some()) || l[:len(l)+1][len(l)].Owner != 77 {
			t.Errorf("%d: %v, %v, %v", i, again, l, e)
		}
	}
}

func TestNilAndEmptyAreOne(t *testing.T) {
	x := of(1, 0, to("a", "b"), api.ModeW)
	for _, l := range [][]api.Lock{nil, {}} {
		if e := ask(t, l, x, 1); e != (errnos{}) {
			t.Errorf("%v", e)
		}
		if got, e := lock.Take(l, x); !slices.Equal(got, []api.Lock{x}) || e != api.OK {
			t.Errorf("%v, %v", got, e)
		}
	}
}
