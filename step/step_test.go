package step_test

import (
	"fmt"
	"math"
	"slices"
	"strconv"
	"strings"
	"testing"

	"quorum/api"
	"quorum/step"
)

func get(t int, k string) api.Op { return api.Op{Kind: api.OpGet, Table: t, Key: k} }

func hold(t int, k string) api.Op { return api.Op{Kind: api.OpHold, Table: t, Key: k} }

func insert(t int, k, v string) api.Op { return api.Op{Kind: api.OpInsert, Table: t, Key: k, Value: v} }

func put(t int, k, v string) api.Op { return api.Op{Kind: api.OpPut, Table: t, Key: k, Value: v} }

func cut(t int, k string) api.Op { return api.Op{Kind: api.OpDelete, Table: t, Key: k} }

func scan(t int, r api.Range, n int) api.Op {
	return api.Op{Kind: api.OpScan, Table: t, Keys: r, N: n}
}

func down(t int, r api.Range, n int) api.Op {
	return api.Op{Kind: api.OpScan, Table: t, Keys: r, N: n, Back: true}
}

func whole(t, mode int) api.Op { return api.Op{Kind: api.OpTable, Table: t, N: mode} }

func save() api.Op { return api.Op{Kind: api.OpSave} }

func back(n int) api.Op { return api.Op{Kind: api.OpReturn, N: n} }

func release(n int) api.Op { return api.Op{Kind: api.OpRelease, N: n} }

func commit() api.Op { return api.Op{Kind: api.OpCommit} }

func rollback() api.Op { return api.Op{Kind: api.OpRollback} }

func prog(l ...api.Op) api.Program { return api.Program{Ops: l} }

func reads(l ...api.Op) api.Program { return api.Program{Only: true, Ops: l} }

func to(low, high string) api.Range { return api.Range{Low: low, High: high} }

func top(low string) api.Range { return api.Range{Low: low, Top: true} }

func long(n int) string { return strings.Repeat("x", n) }

// list is programs, by itself.
func list(l ...api.Program) []api.Program { return l }

func policies() []int { return []int{api.PolicyCircle, api.PolicyDie} }

// wide has room for all, and a flush only where one is asked for.
func wide(policy int) api.Config {
	return api.Config{Tables: 2, Locks: 100, Versions: 60, Group: api.MaxGroup, Policy: policy}
}

// grouped is wide, but for how many wait for a flush.
func grouped(policy, group int) api.Config {
	c := wide(policy)
	c.Group = group
	return c
}

// two is a map of two tables.
func two() [][]api.Row {
	return [][]api.Row{{{Key: "a", Value: "1"}, {Key: "b", Value: "2"}, {Key: "c", Value: "3"}}, {{Key: "x", Value: "9"}}}
}

// made is a state of programs and the map of two tables.
func made(t *testing.T, c api.Config, l ...api.Program) api.State {
	t.Helper()
	return madeOf(t, c, two(), l...)
}

// madeOf holds New against the words.
func madeOf(t *testing.T, c api.Config, m [][]api.Row, l ...api.Program) api.State {
	t.Helper()
	s, e := step.New(c, l, m)
	if want := text(newWorld(c, l, m).state()); e != api.OK || text(s) != want || step.Check(s) != api.OK {
		t.Fatalf("New: %v, %s, not %s", e, text(s), want)
	}
	return s
}

// picked holds Pick, and of all programs' number Flush, against the words.
func picked(t *testing.T, s api.State, n int) api.State {
	t.Helper()
	was := text(s)
	w := worldOf(s)
	w.pick(n)
	want := text(w.state())
	x, e := step.Pick(s, n)
	if e != api.OK || text(x) != want {
		t.Fatalf("pick %d of %s: %v,\n%s, not\n%s", n, was, e, text(x), want)
	}
	if e := step.Check(x); e != api.OK {
		t.Fatalf("pick %d of %s: %s may not be", n, was, want)
	}
	if n == len(s.Programs) {
		if y, e := step.Flush(s); e != api.OK || text(y) != want {
			t.Fatalf("flush of %s: %v,\n%s, not\n%s", was, e, text(y), want)
		}
	}
	if text(s) != was {
		t.Fatalf("pick %d of %s: it became %s", n, was, text(s))
	}
	return x
}

func picks(t *testing.T, s api.State, l ...int) api.State {
	t.Helper()
	for _, n := range l {
		s = picked(t, s, n)
	}
	return s
}

// tell is what sessions are, how far they are, Err, Value and N of their last
// answers; Clock, Queue, how many locks there are.
func tell(s api.State) string {
	x := ""
	for _, y := range s.Sessions {
		x += "rbwdu"[y.Status:y.Status+1] + strconv.Itoa(y.At)
		if n := len(y.Answers); n > 0 {
			a := y.Answers[n-1]
			x += fmt.Sprintf("(%d %s %d)", a.Err, a.Value, a.N)
		}
		x += " "
	}
	return x + fmt.Sprintf("%d%v %d", s.Clock, s.Queue, len(s.Locks))
}

func want(t *testing.T, s api.State, w string) {
	t.Helper()
	if tell(s) != w {
		t.Errorf("%s, not %s", tell(s), w)
	}
}

// story is a pick, and what is told behind it.
type story struct {
	n    int
	tell string
}

func stories(t *testing.T, s api.State, l ...story) api.State {
	t.Helper()
	for at, x := range l {
		s = picked(t, s, x.n)
		if tell(s) != x.tell {
			t.Fatalf("%d: %s, not %s", at, tell(s), x.tell)
		}
	}
	return s
}

// P15.1: New

func TestNewState(t *testing.T) {
	for _, policy := range policies() {
		s := made(t, wide(policy), prog(get(0, "a")), reads(), prog())
		want(t, s, "r0 r0 r0 1[] 0")
		if s.Config != wide(policy) || s.Ages != 0 || len(s.Sessions) != 3 || text(s.Sessions) != text(make([]api.Session, 3)) {
			t.Errorf("%s", text(s))
		}
		if text(s.Tables) != "[{[{a [{1 1 false}]} {b [{1 2 false}]} {c [{1 3 false}]}]} {[{x [{1 9 false}]}]}]" {
			t.Errorf("%v", s.Tables)
		}
		if text(s.Log) != "[{1 [{0 a 1 false} {0 b 2 false} {0 c 3 false} {1 x 9 false}]}]" || text(s.Programs) != text(list(prog(get(0, "a")), reads(), prog())) {
			t.Errorf("%v, %v", s.Log, s.Programs)
		}
	}
}

// A map without rows: Clock 0, no record; the first commit is 1.
func TestNewWithoutRows(t *testing.T) {
	for tables := 1; tables <= api.MaxTables; tables++ {
		c := wide(api.PolicyDie)
		c.Tables = tables
		for _, m := range [][][]api.Row{make([][]api.Row, tables), slices.Repeat([][]api.Row{{}}, tables)} {
			s := madeOf(t, c, m, prog(put(tables-1, "k", "v"), commit()), reads(scan(0, top(""), 9), get(tables-1, "k"), commit()))
			if s.Clock != 0 || len(s.Log) != 0 || len(s.Tables) != tables {
				t.Errorf("%s", text(s))
			}
			s = picks(t, s, 1, 0, 0)
			want(t, s, "w2(0  1) r1(0  0) 0[0] 1")
			s = picks(t, s, 2, 1)
			want(t, s, "d2(0  1) r2(3  0) 1[] 0")
			if text(s.Log) != fmt.Sprintf("[{1 [{%d k v false}]}]", tables-1) {
				t.Errorf("%v", s.Log)
			}
		}
	}
}

// rows are n, of rising keys.
func rows(n int) []api.Row {
	var l []api.Row
	for i := range n {
		l = append(l, api.Row{Key: fmt.Sprintf("k%03d", i), Value: strconv.Itoa(i)})
	}
	return l
}

func TestHowManyRows(t *testing.T) {
	for _, versions := range []int{1, 2, 7, api.MaxRooms - 1, api.MaxRooms} {
		c := wide(api.PolicyCircle)
		c.Versions = versions
		for _, n := range []int{0, 1, versions - 1, versions, versions + 1, 2 * versions, 200} {
			for _, m := range [][][]api.Row{{rows(n), nil}, {nil, rows(n)}, {rows(n - n/2), rows(n / 2)}} {
				if n <= versions {
					s := madeOf(t, c, m, prog(cut(0, "none"), put(0, "n", "")))
					if n > 0 && (len(s.Log) != 1 || len(s.Log[0].Writes) != n) {
						t.Errorf("%d of %d: %v", n, versions, s.Log)
					}
				} else if s, e := step.New(c, nil, m); e != api.ErrLimit || text(s) != text(api.State{}) {
					t.Errorf("%d of %d: %v, %s", n, versions, e, text(s))
				}
			}
		}
	}
}

func TestErrorsOfNew(t *testing.T) {
	c, small, good := wide(api.PolicyDie), wide(api.PolicyDie), prog(put(1, "a", ""), commit())
	small.Versions = 3
	bad := prog(api.Op{})
	longer := prog(slices.Repeat([]api.Op{save()}, api.MaxOps+1)...)
	falls := [][]api.Row{{{Key: "b"}, {Key: "a"}}, nil}
	for i, x := range []struct {
		c    api.Config
		l    []api.Program
		m    [][]api.Row
		want api.Errno
	}{
		{api.Config{}, slices.Repeat(list(bad), 7), falls[:1], api.ErrConfig},
		{grouped(api.PolicyNone, 1), nil, two(), api.ErrConfig},
		{grouped(api.PolicyDie, 0), nil, two(), api.ErrConfig},
		{grouped(api.PolicyDie, api.MaxGroup+1), nil, two(), api.ErrConfig},
		{small, slices.Repeat(list(bad), 7), falls[:1], api.ErrLimit},
		{c, slices.Repeat(list(good), 7), two(), api.ErrLimit},
		{small, list(good, bad), two(), api.ErrForm},
		{c, list(longer), two(), api.ErrForm},
		{c, list(prog(get(2, "a"))), two(), api.ErrForm},
		{c, list(good), nil, api.ErrForm},
		{c, list(good), two()[:1], api.ErrForm},
		{c, list(good), append(two(), nil), api.ErrForm},
		{c, list(good), make([][]api.Row, 9), api.ErrForm},
		{small, list(good), append(two(), nil), api.ErrForm},
		{small, nil, two()[:1], api.ErrForm},
		{c, nil, falls, api.ErrForm},
		{small, nil, [][]api.Row{rows(9), {{Key: "a"}, {Key: "a"}}}, api.ErrForm},
		{c, nil, [][]api.Row{{{Key: ""}}, nil}, api.ErrForm},
		{c, nil, [][]api.Row{nil, {{Key: long(api.MaxKey + 1)}}}, api.ErrForm},
		{c, nil, [][]api.Row{nil, {{Key: "a", Value: long(api.MaxValue + 1)}}}, api.ErrForm},
		{small, list(good), two(), api.ErrLimit},
		{c, slices.Repeat(list(good), api.MaxProgs), two(), api.OK},
		{c, nil, [][]api.Row{nil, {{Key: long(api.MaxKey), Value: long(api.MaxValue)}}}, api.OK},
	} {
		s, e := step.New(x.c, x.l, x.m)
		if e != x.want || e != api.OK && text(s) != text(api.State{}) {
			t.Errorf("%d: %v, %s", i, e, text(s))
		}
	}
}

// P15.2

// each has an op of each kind, up to what ends it.
func each() []api.Op {
	return []api.Op{get(0, "a"), hold(0, "b"), insert(1, "y", "7"), put(0, "a", "x"), cut(0, "c"), down(0, top(""), 2), whole(1, api.ModeW), save(), back(0), release(0)}
}

func TestEachKindOfOp(t *testing.T) {
	for _, policy := range policies() {
		s := stories(t, made(t, wide(policy), prog(append(each(), commit(), rollback())...)),
			story{0, "r1(0 1 0) 1[] 1"}, story{0, "r2(0 2 0) 1[] 2"}, story{0, "r3(0  0) 1[] 3"}, story{0, "r4(0  0) 1[] 3"}, story{0, "r5(0  0) 1[] 4"}, story{0, "r6(0  0) 1[] 5"},
			story{0, "r7(0  0) 1[] 6"}, story{0, "r8(0  0) 1[] 6"}, story{0, "r9(0  0) 1[] 6"}, story{0, "r10(0  0) 1[] 6"}, story{0, "w11(0  2) 1[0] 6"})
		if text(s.Sessions[0].Answers[5]) != "{0  0 [{b 2} {a x}]}" || s.Sessions[0].Age != 1 || s.Sessions[0].Snap != 0 || s.Ages != 1 || s.Sessions[0].Commit != 2 {
			t.Errorf("%s", text(s.Sessions))
		}
		if text(s.Log[1:]) != "[{2 [{0 a x false} {0 c  true} {1 y 7 false}]}]" || len(s.Sessions[0].Pend.List) != 3 {
			t.Errorf("%v, %v", s.Log, s.Sessions[0].Pend)
		}
		if m := text(s.Locks); m != "[{0 0 {a a\x00 false} 3} {0 0 {b b\x00 false} 2} {0 1 {y y\x00 false} 3} {0 0 {c c\x00 false} 3} {0 0 {  true} 1} {0 1 {  true} 2}]" {
			t.Errorf("%q", m)
		}
		s = stories(t, s, story{1, "d11(0  2) 2[] 0"})
		if text(s.Tables) != "[{[{a [{2 x false}]} {b [{1 2 false}]}]} {[{x [{1 9 false}]} {y [{2 7 false}]}]}]" || s.Sessions[0].Commit != 2 || len(s.Sessions[0].Pend.List) != 0 {
			t.Errorf("%s", text(s))
		}
		s = made(t, wide(policy), prog(append(each(), rollback(), commit())...))
		s = picks(t, s, slices.Repeat([]int{0}, 10)...)
		s = stories(t, s, story{0, "u11(0  0) 1[] 0"}, story{0, "u11(0  0) 1[] 0"}, story{1, "u11(0  0) 1[] 0"})
		if text(s.Tables) != text(made(t, wide(policy)).Tables) || len(s.Log) != 1 || len(s.Sessions[0].Answers) != 11 {
			t.Errorf("%s", text(s))
		}
	}
}

// Whoever reads alone takes no lock, and is told ErrOnly where it would write.
func TestEachKindOfOpThatReadsAlone(t *testing.T) {
	for _, policy := range policies() {
		s := made(t, wide(policy), reads(append(each(), commit())...), reads(append(each(), rollback())...))
		for n := range 2 {
			s = picks(t, s, slices.Repeat([]int{n}, 10)...)
			if x := text(s.Sessions[n].Answers); x != "[{0 1 0 []} {6  0 []} {6  0 []} {6  0 []} {6  0 []} {0  0 [{c 3} {b 2}]} {6  0 []} {0  0 []} {0  0 []} {0  0 []}]" || s.Sessions[n].Snap != 1 || s.Sessions[n].Age != n+1 {
				t.Errorf("%s", text(s.Sessions[n]))
			}
		}
		stories(t, s, story{0, "d11(0  0) r10(0  0) 1[] 0"}, story{1, "d11(0  0) u11(0  0) 1[] 0"}, story{1, "d11(0  0) u11(0  0) 1[] 0"}, story{0, "d11(0  0) u11(0  0) 1[] 0"})
	}
}

// Behind the last op stands an OpRollback: it is told, but At stays.
func TestBehindTheLastOp(t *testing.T) {
	for _, policy := range policies() {
		s := made(t, wide(policy), prog(put(0, "a", "x"), save()), prog(), reads(save(), get(0, "b")), reads())
		s = picks(t, s, 0, 0, 2, 2)
		s = stories(t, s, story{0, "u2(0  0) r0 r2(0 2 0) r0 1[] 0"}, story{1, "u2(0  0) u0(0  0) r2(0 2 0) r0 1[] 0"}, story{2, "u2(0  0) u0(0  0) u2(0  0) r0 1[] 0"}, story{3, "u2(0  0) u0(0  0) u2(0  0) u0(0  0) 1[] 0"})
		for n, x := range s.Sessions {
			if len(x.Answers) != x.At+1 || len(x.Pend.List) != 0 || len(x.Pend.Marks) != 0 || x.Commit != 0 || s.Ages != 4 {
				t.Errorf("%d: %s", n, text(x))
			}
		}
	}
}

// still holds that a pick does nothing.
func still(t *testing.T, s api.State, l ...int) {
	t.Helper()
	for _, n := range l {
		if x := picked(t, s, n); text(x) != text(s) {
			t.Errorf("pick %d of %s: %s", n, text(s), text(x))
		}
	}
}

func TestPicksThatDoNothing(t *testing.T) {
	for _, policy := range policies() {
		s := made(t, wide(policy), prog(put(0, "a", "x"), commit(), put(0, "b", "y")), prog(get(0, "b"), commit(), get(0, "a")), prog(get(0, "b"), rollback(), get(0, "a")), prog(), reads(commit(), get(0, "a")), reads(rollback(), get(0, "a")))
		s = picks(t, s, 0, 0, 1, 1, 2, 2, 3, 4, 5)
		want(t, s, "w2(0  2) d2(0  1) u2(0  0) u0(0  0) d1(0  0) u1(0  0) 1[0] 1")
		still(t, s, 0, 1, 2, 3, 4, 5)
		s = picks(t, s, 6)
		want(t, s, "d2(0  2) d2(0  1) u2(0  0) u0(0  0) d1(0  0) u1(0  0) 2[] 0")
		still(t, s, 0, 1, 2, 3, 4, 5, 6)
	}
	s := picks(t, made(t, wide(api.PolicyDie), prog(hold(0, "a")), prog(hold(0, "a"), commit())), 0, 1)
	want(t, s, "r1(0 1 0) u0(9  2) 1[] 1")
	still(t, s, 1)
}

func TestNumbersOfPicks(t *testing.T) {
	for n := range api.MaxProgs + 1 {
		s := made(t, wide(api.PolicyDie), slices.Repeat(list(prog(get(0, "a"))), n)...)
		for _, at := range []int{math.MinInt, -2, -1, n + 1, n + 2, api.MaxProgs + 1, math.MaxInt} {
			if x, e := step.Pick(s, at); e != api.ErrForm || text(x) != text(api.State{}) {
				t.Errorf("%d of %d: %v, %s", at, n, e, text(x))
			}
		}
		for at := range n + 1 {
			x := picked(t, s, at)
			if (at == n) != (text(x) == text(s)) {
				t.Errorf("%d of %d: %s", at, n, text(x))
			}
		}
	}
}

// Ages go by who is picked first, and Snap is of those that read alone.
func TestBegin(t *testing.T) {
	s := made(t, grouped(api.PolicyDie, 1), prog(get(0, "a"), save(), commit()), prog(put(1, "x", "1"), commit()), reads(get(0, "a")), reads(get(0, "a")), prog(put(1, "x", "2"), commit()), prog(save()))
	s = picks(t, s, 4, 2, 4, 0, 3, 0, 1, 2, 1)
	var ages, snaps []int
	for _, x := range s.Sessions {
		ages, snaps = append(ages, x.Age), append(snaps, x.Snap)
	}
	if text(ages, snaps, s.Ages) != "[3 5 2 4 1 0] [0 0 1 2 0 0] 5" {
		t.Errorf("%v, %v, %d", ages, snaps, s.Ages)
	}
	// also of one that is blocked, or taken back at once
	s = picks(t, made(t, wide(api.PolicyDie), prog(hold(0, "a")), prog(hold(0, "a"))), 1, 0)
	if want(t, s, "u0(9  2) r1(0 1 0) 1[] 1"); s.Sessions[0].Age != 2 || s.Ages != 2 {
		t.Errorf("%s", text(s))
	}
	s = picks(t, made(t, wide(api.PolicyCircle), prog(hold(0, "a")), prog(hold(0, "a"))), 1, 0, 0)
	if want(t, s, "b0 r1(0 1 0) 1[] 1"); s.Sessions[0].Age != 2 || s.Ages != 2 {
		t.Errorf("%s", text(s))
	}
}

func TestOwnWrites(t *testing.T) {
	for _, policy := range policies() {
		s := made(t, wide(policy), prog(save(), put(0, "b", "q"), get(0, "b"), save(), cut(0, "a"), insert(0, "a", "n"), scan(0, to("a", "c"), 9), back(1), scan(0, to("a", "c"), 9), back(0), scan(0, to("a", "c"), 9), commit()))
		s = picks(t, s, slices.Repeat([]int{0}, 12)...)
		if x := text(s.Sessions[0].Answers); x != "[{0  0 []} {0  0 []} {0 q 0 []} {0  1 []} {0  0 []} {0  0 []} {0  0 [{a n} {b q}]} {0  0 []} {0  0 [{a 1} {b q}]} {0  0 []} {0  0 [{a 1} {b 2}]} {0  1 []}]" {
			t.Errorf("%s", x)
		}
		want(t, s, "d12(0  1) 1[] 0")
		s = made(t, wide(policy), prog(save(), save(), put(0, "b", "q"), release(1), back(1), release(0), back(0), release(0), save(), save(), commit()))
		s = picks(t, s, slices.Repeat([]int{0}, 10)...)
		if x := text(s.Sessions[0].Answers); x != "[{0  0 []} {0  1 []} {0  0 []} {0  0 []} {7  0 []} {0  0 []} {7  0 []} {7  0 []} {0  0 []} {0  1 []}]" || text(s.Sessions[0].Pend) != "{[{0 b q false}] [1 1]}" {
			t.Errorf("%s", x)
		}
		// the seventh savepoint
		s = picks(t, made(t, wide(policy), prog(slices.Repeat([]api.Op{save()}, 7)...)), 0, 0, 0, 0, 0, 0, 0)
		want(t, s, "r7(2  0) 1[] 0")
	}
}

// A commit with nothing written: also where all was returned from.
func TestCommitOfNothing(t *testing.T) {
	for _, policy := range policies() {
		for _, g := range []api.Program{prog(commit()), prog(get(0, "a"), commit()), prog(save(), put(0, "a", "x"), back(0), commit()), prog(hold(0, "a"), insert(0, "a", ""), cut(0, "none"), commit())} {
			s := made(t, grouped(policy, 1), g, prog(put(1, "x", "1"), commit()))
			if policy == api.PolicyDie {
				s = picks(t, s, 1, 1)
			}
			s = picks(t, s, slices.Repeat([]int{0}, len(g.Ops))...)
			x := s.Sessions[0]
			if x.Status != api.IsDone || x.Commit != 0 || x.Answers[len(g.Ops)-1].N != s.Clock || len(s.Log) != s.Clock || len(s.Locks) != 0 || len(x.Pend.Marks) != 0 {
				t.Errorf("%s", text(s))
			}
		}
		// beside one that waits: Clock is what is installed
		s := picks(t, made(t, wide(policy), prog(put(0, "a", "x"), commit()), prog(get(0, "b"), commit())), 0, 0, 1, 1)
		want(t, s, "w2(0  2) d2(0  1) 1[0] 1")
	}
}

func TestSeveralWritesOfOneKey(t *testing.T) {
	s := made(t, grouped(api.PolicyCircle, 1), prog(put(1, "b", "1"), put(0, "b", "2"), put(1, "b", "3"), cut(0, "b"), put(0, "a", "4"), put(0, "b", "5"), cut(1, "b"), commit()))
	s = picks(t, s, slices.Repeat([]int{0}, 8)...)
	want(t, s, "d8(0  2) 2[] 0")
	if text(s.Log[1]) != "{2 [{0 a 4 false} {0 b 5 false} {1 b  true}]}" || text(s.Tables[1].Rows) != "[{x [{1 9 false}]}]" || text(s.Tables[0].Rows[1]) != "{b [{2 5 false}]}" {
		t.Errorf("%s", text(s))
	}
}

// Readers and writers of one key: a read lock and a write lock go together, but
// none beside one to certify.
func TestSameKey(t *testing.T) {
	l := list(prog(put(0, "a", "x"), commit()), prog(get(0, "a"), get(0, "a"), commit()))
	for _, policy := range policies() {
		s := stories(t, made(t, wide(policy), l...), story{0, "r1(0  0) r0 1[] 1"}, story{1, "r1(0  0) r1(0 1 0) 1[] 2"}, story{0, "b1(0  0) r1(0 1 0) 1[] 2"}, story{0, "b1(0  0) r1(0 1 0) 1[] 2"},
			story{1, "b1(0  0) r2(0 1 0) 1[] 2"}, story{1, "b1(0  0) d3(0  1) 1[] 1"}, story{0, "w2(0  2) d3(0  1) 1[0] 1"}, story{2, "d2(0  2) d3(0  1) 2[] 0"})
		if s.Sessions[0].Commit != 2 || s.Sessions[1].Commit != 0 {
			t.Errorf("%s", text(s))
		}
	}
	// the one that writes is the younger one
	stories(t, made(t, wide(api.PolicyCircle), l...), story{1, "r0 r1(0 1 0) 1[] 1"}, story{0, "r1(0  0) r1(0 1 0) 1[] 2"}, story{0, "b1(0  0) r1(0 1 0) 1[] 2"}, story{1, "b1(0  0) r2(0 1 0) 1[] 2"})
	stories(t, made(t, wide(api.PolicyDie), l...), story{1, "r0 r1(0 1 0) 1[] 1"}, story{0, "r1(0  0) r1(0 1 0) 1[] 2"}, story{0, "u1(9  2) r1(0 1 0) 1[] 1"}, story{1, "u1(9  2) r2(0 1 0) 1[] 1"})
	// all that takes a write lock is in the way of all that does
	ops := []api.Op{hold(0, "a"), insert(0, "a", ""), put(0, "a", ""), cut(0, "a"), whole(0, api.ModeW)}
	for _, one := range ops {
		for _, other := range ops {
			s := picks(t, made(t, wide(api.PolicyCircle), prog(one), prog(other), prog(get(0, "a")), prog(scan(0, top(""), 1))), 0, 1, 2, 3)
			if s.Sessions[1].Status != api.IsBlocked || s.Sessions[2].At != 1 || s.Sessions[3].At != 1 || len(s.Locks) != 3 {
				t.Errorf("%v, %v: %s", one, other, text(s))
			}
			s = picks(t, made(t, wide(api.PolicyDie), prog(save(), one), prog(other)), 1, 0, 0)
			if s.Sessions[0].Status != api.IsUndone || s.Sessions[0].At != 1 || text(s.Sessions[0].Answers) != "[{0  0 []} {9  2 []}]" {
				t.Errorf("%v, %v: %s", one, other, text(s))
			}
		}
	}
}

func TestOtherKeys(t *testing.T) {
	for _, policy := range policies() {
		s := made(t, wide(policy), prog(put(0, "a", "0"), commit()), prog(put(0, "b", "1"), commit()), prog(put(0, "a\x00", "2"), commit()), prog(put(1, "a", "3"), commit()), prog(insert(0, "d", "4"), commit()), prog(cut(0, "c"), commit()))
		s = picks(t, s, 0, 1, 2, 3, 4, 5, 5, 4, 2)
		want(t, s, "r1(0  0) r1(0  0) w2(0  4) r1(0  0) w2(0  3) w2(0  2) 1[5 4 2] 6")
		s = picks(t, s, 1)
		want(t, s, "r1(0  0) d2(0  5) d2(0  4) r1(0  0) d2(0  3) d2(0  2) 5[] 2")
		if text(s.Tables[0].Rows) != "[{a [{1 1 false}]} {a\x00 [{4 2 false}]} {b [{5 1 false}]} {d [{3 4 false}]}]" {
			t.Errorf("%v", s.Tables)
		}
	}
}

// What is new, other or gone in a range that was read waits; beside it, it does
// not.
func TestOverlappingRanges(t *testing.T) {
	for _, policy := range policies() {
		for _, x := range []struct {
			o     api.Op
			r     api.Range
			waits bool
		}{
			{put(0, "b", "q"), to("b", "c"), true}, {insert(0, "bb", "q"), to("b", "c"), true}, {cut(0, "b"), to("a", "b\x00"), true}, {put(0, "c", "q"), to("b", "c"), false}, {put(0, "a", "q"), to("a\x00", "b"), false},
			{put(0, "d", "q"), top("c"), true}, {put(0, "d", "q"), top("d"), true}, {put(0, "d", "q"), top("d\x00"), false}, {put(0, "b", "q"), to("b", "b"), false}, {put(1, "b", "q"), top(""), false}, {put(0, "a", "q"), top(""), true},
		} {
			s := made(t, wide(policy), prog(x.o, commit()), prog(scan(0, x.r, 0), down(0, x.r, 9), commit()))
			s = picks(t, s, 0, 1, 0, 1)
			if blocked := s.Sessions[0].Status == api.IsBlocked; blocked != x.waits || s.Sessions[1].At != 2 || len(s.Sessions[1].Answers[0].Rows) != 0 {
				t.Errorf("%v, %v: %s", x.o, x.r, text(s))
			}
			s = picks(t, s, 1, 0, 2)
			want(t, s, "d2(0  2) d3(0  1) 2[] 0")
		}
	}
}

func TestTableLocks(t *testing.T) {
	for _, policy := range policies() {
		// to write: others may read, but none may write, and each key is certified
		s := made(t, wide(policy), prog(save(), put(0, "a", ""), commit()), prog(whole(0, api.ModeW), put(0, "c", "k"), put(1, "x", ""), commit()), prog(save(), get(0, "b"), commit()))
		stories(t, s, story{0, "r1(0  0) r0 r0 1[] 0"}, story{2, "r1(0  0) r0 r1(0  0) 1[] 0"}, story{1, "r1(0  0) r1(0  0) r1(0  0) 1[] 1"}, story{0, "b1(0  0) r1(0  0) r1(0  0) 1[] 1"}, story{1, "b1(0  0) r2(0  0) r1(0  0) 1[] 1"}, story{1, "b1(0  0) r3(0  0) r1(0  0) 1[] 2"},
			story{2, "b1(0  0) r3(0  0) r2(0 2 0) 1[] 3"}, story{1, "b1(0  0) w4(0  2) r2(0 2 0) 1[1] 4"}, story{3, "b1(0  0) d4(0  2) r2(0 2 0) 2[] 1"}, story{0, "r2(0  0) d4(0  2) r2(0 2 0) 2[] 2"})
		// to read: others may write, but none may commit what it wrote there
		s = made(t, wide(policy), prog(put(0, "a", "x"), put(1, "a", "x"), commit()), prog(whole(0, api.ModeR), get(0, "a"), commit()))
		stories(t, s, story{0, "r1(0  0) r0 1[] 1"}, story{1, "r1(0  0) r1(0  0) 1[] 2"}, story{0, "r2(0  0) r1(0  0) 1[] 3"}, story{0, "b2(0  0) r1(0  0) 1[] 3"}, story{1, "b2(0  0) r2(0 1 0) 1[] 3"}, story{1, "b2(0  0) d3(0  1) 1[] 2"}, story{0, "w3(0  2) d3(0  1) 1[0] 2"})
	}
	// a lock on the table covers those on its keys; raised it stays one
	s := made(t, wide(api.PolicyCircle), prog(whole(0, api.ModeR), get(0, "a"), scan(0, to("a", "c"), 2), scan(0, top(""), 2), whole(0, api.ModeW), put(0, "a", ""), whole(0, api.ModeR), commit()))
	s = picks(t, s, 0, 0, 0, 0, 0, 0, 0)
	if want(t, s, "r7(0  0) 1[] 1"); text(s.Locks) != "[{0 0 {  true} 2}]" {
		t.Errorf("%v", s.Locks)
	}
	want(t, picks(t, s, 0), "w8(0  2) 1[0] 2")
}

// What a commit has certified that waits is not to be read till it is installed.
func TestReadsWaitForAFlush(t *testing.T) {
	for _, o := range []api.Op{get(0, "a"), hold(0, "a"), scan(0, to("a", "b"), 1), whole(0, api.ModeR), put(0, "a", ""), cut(0, "a")} {
		for _, policy := range policies() {
			s := made(t, wide(policy), prog(save(), o, commit()), prog(put(0, "a", "x"), commit()), prog(o, commit()))
			s = picks(t, s, 0, 1, 1, 0, 2)
			if policy == api.PolicyDie {
				want(t, s, "b1(0  0) w2(0  2) u0(9  2) 1[1] 1")
			} else {
				want(t, s, "b1(0  0) w2(0  2) b0 1[1] 1")
			}
			s = picks(t, s, 3, 0)
			if x := s.Sessions[0]; x.Status != api.IsReady || x.At != 2 || o.Kind <= api.OpHold && x.Answers[1].Value != "x" || o.Kind == api.OpScan && text(x.Answers[1].Rows) != "[{a x}]" {
				t.Errorf("%v: %s", o, text(s))
			}
		}
	}
}

// A commit that is blocked keeps the locks that it got.
func TestSomeLocksOfACommit(t *testing.T) {
	for _, policy := range policies() {
		l := list(prog(put(0, "a", "x"), put(0, "b", "y"), put(0, "c", "z"), commit()), prog(get(0, "b"), commit()), prog(get(0, "a"), commit()), prog(get(0, "c"), commit()))
		s := picks(t, made(t, wide(policy), l...), 0, 0, 0, 1, 0)
		want(t, s, "b3(0  0) r1(0 2 0) r0 r0 1[] 4")
		modes := func() string {
			x := ""
			for _, y := range s.Locks {
				x += strconv.Itoa(y.Mode)
			}
			return x
		}
		if modes() != "3221" {
			t.Errorf("%v", s.Locks)
		}
		// c is still to be read, a is not
		s = picks(t, s, 3, 2)
		if policy == api.PolicyDie {
			want(t, s, "b3(0  0) r1(0 2 0) u0(9  2) r1(0 3 0) 1[] 5")
		} else {
			want(t, s, "b3(0  0) r1(0 2 0) b0 r1(0 3 0) 1[] 5")
		}
		if s = picks(t, s, 1, 0); modes() != "3321" || s.Sessions[0].Status != api.IsBlocked {
			t.Errorf("%v", s.Locks)
		}
		if s = picks(t, s, 3, 0); modes() != "333" || s.Sessions[0].Status != api.IsWaiting {
			t.Errorf("%v", s.Locks)
		}
	}
}

func ring() []api.Program {
	return list(prog(hold(0, "a"), hold(0, "b"), commit()), prog(hold(0, "b"), hold(0, "c"), commit()), prog(hold(0, "c"), hold(0, "a"), commit()))
}

func TestCirclesOfTwo(t *testing.T) {
	l := list(prog(hold(0, "a"), hold(0, "b"), commit()), prog(hold(0, "b"), hold(0, "a"), commit()))
	s := picks(t, made(t, wide(api.PolicyCircle), l...), 0, 1)
	// the victim is the one that is picked, or the other one
	want(t, picks(t, s, 0, 1), "b1(0 1 0) u1(9  1) 1[] 1")
	want(t, picks(t, s, 0, 1, 0), "r2(0 2 0) u1(9  1) 1[] 2")
	want(t, picks(t, s, 1, 0), "r2(0 2 0) u1(9  1) 1[] 2")
	// ages go by who was picked first
	s = picks(t, made(t, wide(api.PolicyCircle), l...), 1, 0)
	want(t, picks(t, s, 0, 1), "u1(9  1) r2(0 1 0) 1[] 2")
	want(t, picks(t, s, 1, 0), "u1(9  1) b1(0 2 0) 1[] 1")
	// of commits, and of what was written nothing is left
	l = list(prog(get(0, "a"), put(0, "b", "0"), commit()), prog(get(0, "b"), save(), put(0, "a", "1"), commit()))
	s = picks(t, made(t, wide(api.PolicyCircle), l...), 0, 1, 0, 1, 1, 1)
	want(t, s, "r2(0  0) b3(0  0) 1[] 4")
	s = picks(t, s, 0)
	if want(t, s, "w3(0  2) u3(9  1) 1[0] 2"); text(s.Sessions[1].Pend) != "{[] []}" || len(s.Sessions[1].Answers) != 4 || s.Sessions[1].Commit != 0 {
		t.Errorf("%s", text(s.Sessions[1]))
	}
}

func TestCirclesOfThree(t *testing.T) {
	s := picks(t, made(t, wide(api.PolicyCircle), ring()...), 2, 0, 1, 2, 0)
	want(t, s, "b1(0 1 0) r1(0 2 0) b1(0 3 0) 1[] 3")
	want(t, picks(t, s, 1), "b1(0 1 0) u1(9  1) b1(0 3 0) 1[] 2")
	want(t, picks(t, s, 1, 2, 0, 2), "r2(0 2 0) u1(9  1) b1(0 3 0) 1[] 3")
	// the youngest is another one: whoever is picked goes on
	s = picks(t, made(t, wide(api.PolicyCircle), ring()...), 0, 1, 2, 2, 0)
	want(t, picks(t, s, 1), "b1(0 1 0) r2(0 3 0) u1(9  1) 1[] 3")
	// the youngest is another one, and does not stand in the way of whoever is
	// picked: who does then waits for nobody, and it stays blocked
	s = picks(t, made(t, wide(api.PolicyCircle), ring()...), 0, 1, 2, 2, 1)
	want(t, s, "r1(0 1 0) b1(0 2 0) b1(0 3 0) 1[] 3")
	want(t, picks(t, s, 0), "b1(0 1 0) b1(0 2 0) u1(9  1) 1[] 2")
	want(t, picks(t, s, 0, 1, 1), "b1(0 1 0) d3(0  1) u1(9  1) 1[] 1")
}

// Whoever stands in the way, but in no circle, stays there.
func TestBlockedBesideACircle(t *testing.T) {
	s := made(t, wide(api.PolicyCircle), prog(hold(0, "b"), put(0, "a", "x"), commit()), prog(get(0, "a"), hold(0, "b"), commit()), prog(get(0, "a"), commit()))
	s = picks(t, s, 0, 0, 1, 2, 1)
	want(t, s, "r2(0  0) b1(0 1 0) r1(0 1 0) 1[] 4")
	s = picks(t, s, 0)
	want(t, s, "b2(0  0) u1(9  1) r1(0 1 0) 1[] 3")
	want(t, picks(t, s, 2, 0), "w3(0  2) u1(9  1) d2(0  1) 1[0] 2")
	// what waits for a circle is in none
	s = picks(t, made(t, wide(api.PolicyCircle), append(ring()[:2:2], prog(hold(0, "c"), hold(0, "b"), commit()), prog(hold(0, "d"), hold(0, "a")))...), 0, 3, 2, 1, 3, 0, 1)
	want(t, s, "b1(0 1 0) b1(0 2 0) r1(0 3 0) b1(3  0) 1[] 4")
	want(t, picks(t, s, 2), "b1(0 1 0) u1(9  1) r2(0 2 0) b1(3  0) 1[] 4")
}

func TestTwoCirclesAtOnce(t *testing.T) {
	l := list(prog(hold(0, "a"), get(0, "b"), get(0, "c"), put(0, "a", "q"), commit()), prog(get(0, "a"), put(0, "b", "1"), commit()), prog(get(0, "a"), put(0, "c", "2"), commit()))
	s := picks(t, made(t, wide(api.PolicyCircle), l...), 0, 0, 0, 0, 1, 2, 1, 2, 2, 1)
	want(t, s, "r4(0  0) b2(0  0) b2(0  0) 1[] 7")
	want(t, picks(t, s, 0), "w5(0  2) u2(9  1) u2(9  1) 1[0] 3")
	// of two circles the youngest is the one that is picked: the others stay
	s = picks(t, made(t, wide(api.PolicyCircle), l...), 1, 2, 1, 2, 0, 0, 0, 0, 2, 1)
	want(t, s, "r4(0  0) b2(0  0) b2(0  0) 1[] 7")
	want(t, picks(t, s, 0), "u4(9  1) b2(0  0) b2(0  0) 1[] 4")
	// it stands between them by its age: one goes, then it goes itself
	s = picks(t, made(t, wide(api.PolicyCircle), l...), 1, 0, 2, 1, 0, 0, 0, 2, 2, 1)
	want(t, s, "r4(0  0) b2(0  0) b2(0  0) 1[] 7")
	s = picks(t, s, 0)
	if want(t, s, "u4(9  1) b2(0  0) u2(9  1) 1[] 2"); len(s.Sessions[0].Answers) != 5 || len(s.Sessions[2].Answers) != 3 {
		t.Errorf("%s", text(s))
	}
}

// Who is blocked waits for those in the way of the first lock that it has not,
// as they are now.
func TestFirstLockThatIsNotCovered(t *testing.T) {
	l := list(prog(get(0, "b"), save(), hold(0, "a"), commit()), prog(put(0, "a", "x"), put(0, "b", "y"), commit()), prog(get(0, "a"), commit()))
	s := picks(t, made(t, wide(api.PolicyCircle), l...), 0, 1, 1, 2, 1)
	want(t, s, "r1(0 2 0) b2(0  0) r1(0 1 0) 1[] 4")
	// the one in its way has gone: it waits for nobody, though b is not free
	s = picks(t, s, 2, 0, 0)
	want(t, s, "b2(0  0) b2(0  0) d2(0  1) 1[] 3")
	s = picks(t, s, 1)
	want(t, s, "b2(0  0) u2(9  1) d2(0  1) 1[] 1")
	want(t, picks(t, s, 0), "r3(0 1 0) u2(9  1) d2(0  1) 1[] 2")
	// it got that one, and was blocked anew by the next one
	s = picks(t, made(t, wide(api.PolicyCircle), l...), 0, 1, 1, 2, 1, 2, 1, 0)
	want(t, s, "r2(0  0) b2(0  0) d2(0  1) 1[] 3")
	s = picks(t, s, 0)
	want(t, s, "r3(0 1 0) u2(9  1) d2(0  1) 1[] 2")
	// whoever takes a lock that is in the way comes in
	s = made(t, wide(api.PolicyCircle), prog(put(0, "a", "x"), hold(0, "c"), commit()), prog(get(0, "a"), commit()), prog(get(0, "a"), hold(0, "c"), commit()))
	s = picks(t, s, 0, 0, 1, 0, 2)
	want(t, s, "b2(0 3 0) r1(0 1 0) r1(0 1 0) 1[] 4")
	want(t, picks(t, s, 2), "b2(0 3 0) r1(0 1 0) u1(9  1) 1[] 3")
}

// One that waits for a flush waits for no other one.
func TestNoCircleThroughOneThatWaits(t *testing.T) {
	s := made(t, wide(api.PolicyCircle), prog(get(0, "b"), put(0, "a", "x"), commit()), prog(put(0, "b", "y"), get(0, "a"), commit()))
	s = picks(t, s, 0, 0, 1, 0, 1)
	want(t, s, "w3(0  2) b1(0  0) 1[0] 3")
	want(t, picks(t, s, 1, 2, 1, 1), "d3(0  2) w3(0  3) 2[1] 2")
	// whatever op stands behind its commit
	s = picks(t, made(t, wide(api.PolicyCircle), prog(hold(0, "b"), get(0, "a"), commit()), prog(put(0, "a", "x"), commit(), hold(0, "b"))), 0, 1, 1, 0)
	want(t, s, "b1(0 2 0) w2(0  2) 1[1] 2")
	want(t, picks(t, s, 2, 0), "r2(0 x 0) d2(0  2) 2[] 2")
}

func TestWhoDies(t *testing.T) {
	// the younger one goes, the older one waits
	s := picks(t, made(t, wide(api.PolicyDie), ring()...), 0, 1, 2)
	want(t, picks(t, s, 0), "b1(0 1 0) r1(0 2 0) r1(0 3 0) 1[] 3")
	want(t, picks(t, s, 0, 1), "b1(0 1 0) b1(0 2 0) r1(0 3 0) 1[] 3")
	s = picks(t, s, 0, 1, 2)
	want(t, s, "b1(0 1 0) b1(0 2 0) u1(9  2) 1[] 2")
	want(t, picks(t, s, 1, 1, 0), "r2(0 2 0) d3(0  1) u1(9  2) 1[] 2")
	// one of several in the way is older
	l := slices.Repeat(list(prog(get(0, "a"), commit())), 3)
	l = append(l, prog(put(0, "a", "x"), commit()))
	for _, x := range []struct {
		first []int
		tell  string
	}{
		{[]int{3, 0, 1, 2}, "r1(0 1 0) r1(0 1 0) r1(0 1 0) b1(0  0) 1[] 4"}, {[]int{0, 3, 1, 2}, "r1(0 1 0) r1(0 1 0) r1(0 1 0) u1(9  2) 1[] 3"}, {[]int{2, 3, 1, 0}, "r1(0 1 0) r1(0 1 0) r1(0 1 0) u1(9  2) 1[] 3"},
		{[]int{1, 2, 3, 0}, "r1(0 1 0) r1(0 1 0) r1(0 1 0) u1(9  2) 1[] 3"}, {[]int{0, 1, 2, 3}, "r1(0 1 0) r1(0 1 0) r1(0 1 0) u1(9  2) 1[] 3"},
	} {
		want(t, picks(t, made(t, wide(api.PolicyDie), l...), append(x.first, 3)...), x.tell)
	}
	// also where the older one waits for a flush; nothing of its own is left
	s = made(t, wide(api.PolicyDie), prog(put(0, "a", "x"), commit()), prog(put(0, "b", "y"), save(), get(0, "a"), commit()))
	s = picks(t, s, 0, 0, 1, 1, 1)
	if want(t, s, "w2(0  2) u2(9  2) 1[0] 1"); text(s.Sessions[1].Pend) != "{[] []}" || len(s.Sessions[1].Answers) != 3 {
		t.Errorf("%s", text(s))
	}
	// no older one in the way, whatever else waits: nobody goes
	s = made(t, wide(api.PolicyDie), prog(hold(0, "a"), commit()), prog(hold(0, "b"), commit()), prog(hold(0, "c"), commit()), prog(save(), whole(0, api.ModeW), commit()))
	want(t, picks(t, s, 3, 0, 1, 2, 3, 3), "r1(0 1 0) r1(0 2 0) r1(0 3 0) b1(0  0) 1[] 3")
}

func TestNoLockIsLeft(t *testing.T) {
	for _, policy := range policies() {
		c := wide(policy)
		c.Locks = 2
		g := prog(get(0, "a"), scan(0, to("b", "d"), 1), get(0, "b"), put(0, "a", "x"), save(), get(1, "x"), commit())
		s := made(t, c, g, prog(save(), get(0, "c")))
		s = stories(t, s, story{1, "r0 r1(0  0) 1[] 0"}, story{0, "r1(0 1 0) r1(0  0) 1[] 1"}, story{0, "r2(0  0) r1(0  0) 1[] 2"}, story{0, "r3(0 2 0) r1(0  0) 1[] 2"}, story{0, "r4(0  0) r1(0  0) 1[] 2"}, story{0, "r5(0  0) r1(0  0) 1[] 2"})
		want(t, picks(t, s, 0), "u5(9  3) r1(0  0) 1[] 0")
		// those of all count
		s = picks(t, s, 1)
		want(t, s, "r5(0  0) u1(9  3) 1[] 2")
		// who is in the way is asked first
		s = made(t, c, prog(save(), put(0, "a", "x"), commit()), prog(put(0, "a", "y"), put(0, "b", "y"), commit()))
		want(t, picks(t, s, 0, 1, 1, 0), "b1(0  0) r2(0  0) 1[] 2")
		// own ones are raised by a commit, but where a lock on the table covered them
		want(t, picks(t, s, 1, 1, 1), "r0 w3(0  2) 1[1] 2")
		c.Locks = 1
		s = picks(t, made(t, c, prog(whole(0, api.ModeW), put(0, "a", "x"), commit())), 0, 0)
		want(t, s, "r2(0  0) 1[] 1")
		want(t, picks(t, s, 0), "u2(9  3) 1[] 0")
		// one's own of that range, but of another table; of another one's range
		want(t, picks(t, made(t, c, prog(get(0, "a"), get(1, "a"))), 0, 0), "u1(9  3) 1[] 0")
		want(t, picks(t, made(t, c, prog(get(0, "a")), prog(get(0, "a"))), 0, 1), "r1(0 1 0) u0(9  3) 1[] 1")
		want(t, picks(t, made(t, c, prog(scan(0, to("a", "b"), 1), scan(0, to("a", "bb"), 1))), 0, 0), "u1(9  3) 1[] 0")
		// who reads alone needs none
		want(t, picks(t, made(t, c, prog(get(0, "a")), reads(get(0, "a"), scan(0, top(""), 1), commit())), 0, 1, 1, 1), "r1(0 1 0) d3(0  0) 1[] 1")
	}
	// a commit that got some of its locks: all are free behind it
	c := wide(api.PolicyCircle)
	c.Locks = 4
	s := picks(t, made(t, c, prog(whole(0, api.ModeW), put(0, "a", "x"), put(0, "b", "x"), put(0, "c", "x"), commit()), prog(get(1, "x"))), 0, 0, 0, 0, 1)
	want(t, s, "r4(0  0) r1(0 9 0) 1[] 2")
	want(t, picks(t, s, 0), "u4(9  3) r1(0 9 0) 1[] 1")
}

func TestNoVersionIsLeft(t *testing.T) {
	for _, policy := range policies() {
		c := wide(policy)
		c.Versions = 6
		l := list(prog(put(0, "a", "x"), insert(0, "b", "no"), put(0, "a", "z"), cut(0, "none"), get(0, "a"), put(0, "q", ""), commit()), prog(cut(0, "nope"), save(), cut(0, "c"), commit()), reads(put(0, "a", ""), commit()))
		s := picks(t, made(t, c, l...), 0, 0, 0)
		s = stories(t, s, story{0, "r4(3  0) r0 r0 1[] 3"}, story{0, "r5(0 z 0) r0 r0 1[] 3"}, story{2, "r5(0 z 0) r0 r1(6  0) 1[] 3"}, story{1, "r5(0 z 0) r1(3  0) r1(6  0) 1[] 4"}, story{1, "r5(0 z 0) r2(0  0) r1(6  0) 1[] 4"})
		// inserts, puts, deletes
		want(t, picks(t, s, 0), "u5(9  4) r2(0  0) r1(6  0) 1[] 1")
		s = picks(t, s, 1)
		want(t, s, "r5(0 z 0) u2(9  4) r1(6  0) 1[] 3")
		if s.Sessions[1].Status != api.IsUndone || len(s.Sessions[1].Answers) != 3 || len(s.Sessions[1].Pend.Marks) != 0 {
			t.Errorf("%s", text(s))
		}
		c.Versions = 4
		want(t, picks(t, made(t, c, prog(insert(0, "q", ""))), 0), "u0(9  4) 1[] 0")
		want(t, picks(t, made(t, c, prog(insert(0, "a", ""), get(0, "a"), save(), hold(0, "q"), whole(0, api.ModeW), scan(0, top(""), 9), commit())), 0, 0, 0, 0, 0, 0, 0), "d7(0  1) 1[] 0")
		// what is returned from is free again
		c.Versions = 5
		want(t, picks(t, made(t, c, prog(save(), put(0, "a", ""), back(0), put(0, "b", ""), commit())), 0, 0, 0, 0, 0), "w5(0  2) 1[0] 2")
	}
}

// What a flush has purged is free again, what is kept for one that reads alone is
// not.
func TestPurgedVersionsAreFree(t *testing.T) {
	c := grouped(api.PolicyCircle, 1)
	c.Versions = 5
	l := list(prog(put(0, "a", "x"), commit()), prog(put(0, "a", "y"), commit()), prog(cut(0, "a"), commit()), prog(put(0, "q", ""), put(0, "r", ""), commit()), reads(get(0, "a"), get(0, "a"), commit()))
	s := picks(t, made(t, c, l...), 0, 0, 1, 1, 2, 2, 3, 3, 3)
	want(t, s, "d2(0  2) d2(0  3) d2(0  4) d3(0  5) r0 5[] 0")
	s = picks(t, made(t, c, l...), 4, 0, 0, 1)
	want(t, s, "d2(0  2) u0(9  4) r0 r0 r1(0 1 0) 2[] 0")
	// behind its end, but no flush, they are still there
	s = picks(t, s, 4, 4, 2)
	want(t, s, "d2(0  2) u0(9  4) u0(9  4) r0 d3(0  0) 2[] 0")
	want(t, picks(t, s, 5, 3), "d2(0  2) u0(9  4) u0(9  4) r1(0  0) d3(0  0) 2[] 1")
}

// P15.3

func six() []api.Program {
	var l []api.Program
	for n := range api.MaxProgs {
		l = append(l, prog(put(n%2, "k"+strconv.Itoa(n), strconv.Itoa(n)), commit()))
	}
	return l
}

func TestGroups(t *testing.T) {
	for _, policy := range policies() {
		for group := 1; group <= api.MaxGroup; group++ {
			s := picks(t, made(t, grouped(policy, group), six()...), 0, 1, 2, 3, 4, 5)
			for at, n := range []int{3, 1, 5, 0, 2, 4} {
				s = picked(t, s, n)
				waiting := (at + 1) % group
				if len(s.Queue) != waiting || s.Clock != 1+at+1-waiting || s.Sessions[n].Commit != at+2 || len(s.Log) != at+2 || len(s.Locks) != 6-s.Clock+1 {
					t.Errorf("group %d, %d: %s", group, at, text(s))
				}
			}
			s = picked(t, s, 6)
			if want(t, s, "d2(0  5) d2(0  3) d2(0  6) d2(0  2) d2(0  7) d2(0  4) 7[] 0"); text(s.Tables[0].Rows[3:]) != "[{k0 [{5 0 false}]} {k2 [{6 2 false}]} {k4 [{7 4 false}]}]" {
				t.Errorf("%v", s.Tables)
			}
		}
	}
}

func TestFlushOfNothing(t *testing.T) {
	s := made(t, wide(api.PolicyDie))
	still(t, s, 0)
	s = picks(t, made(t, wide(api.PolicyDie), prog(put(0, "a", "x"), commit()), prog(get(0, "b"))), 0, 1)
	still(t, s, 2)
	if x, e := step.Flush(s); e != api.OK || text(x) != text(s) {
		t.Errorf("%v, %s", e, text(x))
	}
}

// Those in the queue are installed in order: the last one's value is there.
func TestFlushInOrder(t *testing.T) {
	s := late(t)
	s.Config.Group = 4
	x, e := step.Flush(s)
	if e != api.OK {
		t.Fatalf("%v", e)
	}
	want(t, x, "d2(0  2) r1(0  0) d2(0  0) u1(0  0) d4(0  3) d2(0  4) 4[] 0")
	if text(x.Tables) != "[{[{a [{2 x false} {1 1 false}]} {b [{4  true} {1 2 false}]} {c [{1 3 false}]}]} {[{x [{3  true} {1 9 false}]} {y [{3 3 false}]}]}]" {
		t.Errorf("%v", x.Tables)
	}
	// answers that were laid stay as they were, also where they were handed in
	s.Sessions[4].Answers[3] = api.Answer{Err: 5, Value: "v", N: 77, Rows: rows(2)}
	if x, e = step.Flush(s); e != api.OK || text(x.Sessions[4].Answers[3]) != "{5 v 77 [{k000 0} {k001 1}]}" {
		t.Errorf("%v, %s", e, text(x))
	}
}

// versions are those of table 0's first row.
func versions(s api.State) string { return text(s.Tables[0].Rows[0].List) }

func TestPurge(t *testing.T) {
	l := list(prog(put(0, "a", "2"), commit()), prog(put(0, "a", "3"), commit()), prog(put(0, "a", "4"), commit()), reads(save(), save(), commit()), reads(save(), rollback()), reads(get(0, "a")))
	s := made(t, grouped(api.PolicyDie, 1), l...)
	// one that has not begun needs nothing
	s = picks(t, s, 0, 0)
	if versions(s) != "[{2 2 false}]" {
		t.Errorf("%s", versions(s))
	}
	// two are open, at 2 and at 3
	s = picks(t, s, 3, 1, 1, 4, 2, 2)
	if versions(s) != "[{4 4 false} {3 3 false} {2 2 false}]" || s.Sessions[3].Snap != 2 || s.Sessions[4].Snap != 3 {
		t.Errorf("%s", versions(s))
	}
	still(t, s, 6)
	// the later one has ended: both older versions stay for the other one
	x := picks(t, s, 4)
	still(t, x, 6)
	// that one is done: with the next flush they are gone
	x = picks(t, x, 3, 3)
	if versions(x) != "[{4 4 false} {3 3 false} {2 2 false}]" || versions(picks(t, x, 6)) != "[{4 4 false}]" {
		t.Errorf("%s", versions(x))
	}
	// the earlier one alone has ended
	if x = picks(t, s, 3, 3, 6); versions(x) != "[{4 4 false} {3 3 false}]" {
		t.Errorf("%s", versions(x))
	}
	if x = picks(t, x, 4, 6); versions(x) != "[{4 4 false}]" {
		t.Errorf("%s", versions(x))
	}
	// one that writes, and is open, keeps none; nor does its Snap
	s = made(t, grouped(api.PolicyDie, 1), prog(get(0, "b"), save()), prog(put(0, "a", "2"), commit()))
	if s = picks(t, s, 0, 1, 1); versions(s) != "[{2 2 false}]" {
		t.Errorf("%s", versions(s))
	}
}

// A key that is gone for all goes with its versions.
func TestPurgeOfGone(t *testing.T) {
	s := made(t, grouped(api.PolicyDie, 1), prog(cut(0, "a"), commit()), reads(get(0, "a"), scan(0, top(""), 9), commit()), prog(save()))
	s = picks(t, s, 1, 0, 0)
	if versions(s) != "[{2  true} {1 1 false}]" {
		t.Errorf("%s", versions(s))
	}
	s = picks(t, s, 1, 1)
	if text(s.Sessions[1].Answers) != "[{0 1 0 []} {0  0 [{a 1} {b 2} {c 3}]} {0  0 []}]" {
		t.Errorf("%s", text(s.Sessions[1]))
	}
	if s = picks(t, s, 3); s.Tables[0].Rows[0].Key != "b" || len(s.Tables[0].Rows) != 2 {
		t.Errorf("%v", s.Tables)
	}
}

// Other states may be handed in than come of picks.

func TestBlockedWaitingForNobody(t *testing.T) {
	for _, o := range []api.Op{save(), get(0, "b"), hold(0, "b"), scan(0, to("x", "x"), 1), commit()} {
		s := picks(t, made(t, wide(api.PolicyCircle), prog(hold(0, "a"), hold(0, "b")), prog(hold(0, "b"), o)), 0, 1)
		s.Sessions[1].Status = api.IsBlocked
		s = picks(t, s, 0)
		if want(t, s, "b1(0 1 0) b1(0 2 0) 1[] 2"); text(picks(t, s, 0)) != text(s) {
			t.Errorf("%v: %s", o, text(s))
		}
		if s = picks(t, s, 1); s.Sessions[1].At != 2 || s.Sessions[1].Status == api.IsBlocked {
			t.Errorf("%v: %s", o, text(s))
		}
	}
}

func TestMoreThanConfigSays(t *testing.T) {
	s := picks(t, made(t, wide(api.PolicyCircle), prog(get(0, "a"), get(0, "b"), put(0, "a", "x"), get(0, "c"), commit()), prog(get(0, "c"))), 0, 0)
	s.Config.Locks = 1
	// one's own are raised, others are too many
	s = picks(t, s, 0)
	want(t, s, "r3(0  0) r0 1[] 2")
	want(t, picks(t, s, 1), "r3(0  0) u0(9  3) 1[] 2")
	want(t, picks(t, s, 0), "u3(9  3) r0 1[] 0")
	// more wait than a group
	s = picks(t, made(t, wide(api.PolicyCircle), six()...), 0, 0, 1, 1, 2)
	s.Config.Group = 1
	want(t, picks(t, s, 2), "d2(0  2) d2(0  3) d2(0  4) r0 r0 r0 4[] 0")
}

// What is full of writes writes no more, and is not taken back for room.
func TestNoWriteIsLeft(t *testing.T) {
	for _, full := range []bool{false, true} {
		s := picks(t, made(t, wide(api.PolicyCircle), prog(save(), put(0, "b", "z"), cut(0, "a"), commit())), 0)
		s.Sessions[0].Pend.List = slices.Repeat([]api.Write{{Key: "b", Value: "y"}}, api.MaxOps)
		if full {
			s.Config.Versions = 4 + api.MaxOps
		}
		s = picks(t, s, 0, 0)
		want(t, s, "r3(2  0) 1[] 2")
		if s = picks(t, s, 0, 1); text(s.Log[1]) != "{2 [{0 b y false}]}" || s.Clock != 2 {
			t.Errorf("%s", text(s))
		}
	}
}

// One that waits with nothing written: its number is installed all the same.
func TestNothingIsInstalled(t *testing.T) {
	s := picks(t, made(t, wide(api.PolicyCircle), prog(put(0, "b", "z"), commit())), 0, 0)
	s.Sessions[0].Pend.List, s.Log[1].Writes = nil, nil
	s = picks(t, s, 1)
	if want(t, s, "d2(0  2) 2[] 0"); versions(s) != "[{1 1 false}]" {
		t.Errorf("%s", text(s))
	}
}

// The example of the chapter: one program, pick by pick its answers.
func TestExample(t *testing.T) {
	s := made(t, grouped(api.PolicyCircle, 1), prog(get(0, "a"), put(0, "a", "x"), get(0, "a"), commit()))
	stories(t, s, story{0, "r1(0 1 0) 1[] 1"}, story{0, "r2(0  0) 1[] 1"}, story{0, "r3(0 x 0) 1[] 1"}, story{0, "d4(0  2) 2[] 0"}, story{0, "d4(0  2) 2[] 0"})
}
