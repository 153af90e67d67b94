package order_test

import (
	"fmt"
	"math"
	"slices"
	"strconv"
	"strings"
	"testing"

	"quorum/api"
	"quorum/order"
	"quorum/step"
)

func get(t int, k string) api.Op { return api.Op{Kind: api.OpGet, Table: t, Key: k} }

func hold(t int, k string) api.Op { return api.Op{Kind: api.OpHold, Table: t, Key: k} }

func insert(t int, k, v string) api.Op { return api.Op{Kind: api.OpInsert, Table: t, Key: k, Value: v} }

func put(t int, k, v string) api.Op { return api.Op{Kind: api.OpPut, Table: t, Key: k, Value: v} }

func cut(t int, k string) api.Op { return api.Op{Kind: api.OpDelete, Table: t, Key: k} }

func scan(t int, r api.Range, n int) api.Op {
	return api.Op{Kind: api.OpScan, Table: t, Keys: r, N: n}
}

func down(t int, r api.Range, n int) api.Op {
	return api.Op{Kind: api.OpScan, Table: t, Keys: r, N: n, Back: true}
}

func whole(t, mode int) api.Op { return api.Op{Kind: api.OpTable, Table: t, N: mode} }

func save() api.Op { return api.Op{Kind: api.OpSave} }

func back(n int) api.Op { return api.Op{Kind: api.OpReturn, N: n} }

func release(n int) api.Op { return api.Op{Kind: api.OpRelease, N: n} }

func commit() api.Op { return api.Op{Kind: api.OpCommit} }

func rollback() api.Op { return api.Op{Kind: api.OpRollback} }

func prog(l ...api.Op) api.Program { return api.Program{Ops: l} }

func reads(l ...api.Op) api.Program { return api.Program{Only: true, Ops: l} }

func to(low, high string) api.Range { return api.Range{Low: low, High: high} }

func top(low string) api.Range { return api.Range{Low: low, Top: true} }

func long(n int) string { return strings.Repeat("x", n) }

// list is programs, by itself.
func list(l ...api.Program) []api.Program { return l }

func policies() []int { return []int{api.PolicyCircle, api.PolicyDie} }

// wide has room for all, and a flush only where one is asked for.
func wide(policy int) api.Config {
	return api.Config{Tables: 2, Locks: 100, Versions: 60, Group: api.MaxGroup, Policy: policy}
}

// grouped is wide, but for how many wait for a flush.
func grouped(policy, group int) api.Config {
	c := wide(policy)
	c.Group = group
	return c
}

// two is a map of two tables.
func two() [][]api.Row {
	return [][]api.Row{{{Key: "a", Value: "1"}, {Key: "b", Value: "2"}, {Key: "c", Value: "3"}}, {{Key: "x", Value: "9"}}}
}

// bare is one without rows.
func bare() [][]api.Row { return make([][]api.Row, 2) }

// rows are n, of rising keys.
func rows(n int) []api.Row {
	var l []api.Row
	for i := range n {
		l = append(l, api.Row{Key: fmt.Sprintf("k%03d", i), Value: strconv.Itoa(i)})
	}
	return l
}

// made is a state of programs and a map.
func made(t *testing.T, c api.Config, m [][]api.Row, l ...api.Program) api.State {
	t.Helper()
	s, e := step.New(c, l, m)
	if e != api.OK {
		t.Fatalf("New: %v", e)
	}
	return s
}

// picked is a pick of a state that came of map m. T1: it fits.
func picked(t *testing.T, m [][]api.Row, s api.State, n int) api.State {
	t.Helper()
	x, e := step.Pick(s, n)
	if e != api.OK {
		t.Fatalf("pick %d of %s: %v", n, text(s), e)
	}
	if !held(t, x, m) {
		t.Fatalf("pick %d of %s: %s doesn't fit", n, text(s), text(x))
	}
	return x
}

func picks(t *testing.T, m [][]api.Row, s api.State, l ...int) api.State {
	t.Helper()
	for _, n := range l {
		s = picked(t, m, s, n)
	}
	return s
}

// tell is what sessions are, how far they are, Err, Value and N of their last
// answers; Clock, Queue, how many locks there are.
func tell(s api.State) string {
	x := ""
	for _, y := range s.Sessions {
		x += "rbwdu"[y.Status:y.Status+1] + strconv.Itoa(y.At)
		if n := len(y.Answers); n > 0 {
			a := y.Answers[n-1]
			x += fmt.Sprintf("(%d %s %d)", a.Err, a.Value, a.N)
		}
		x += " "
	}
	return x + fmt.Sprintf("%d%v %d", s.Clock, s.Queue, len(s.Locks))
}

// want holds what a state tells of its sessions, the order in which they count,
// the map as text, and how many are open.
func want(t *testing.T, s api.State, w string, l []int, m string, open int) {
	t.Helper()
	if tell(s) != w {
		t.Fatalf("%s, not %s", tell(s), w)
	}
	if x, e := order.Serial(s); e != api.OK || !slices.Equal(x, l) {
		t.Errorf("%s: %v, %v, not %v", w, e, x, l)
	}
	if x, e := order.Map(s); e != api.OK || text(x) != m {
		t.Errorf("%s: %v, %v, not %s", w, e, x, m)
	}
	if n, e := order.Open(s); e != api.OK || n != open {
		t.Errorf("%s: %v, %d, not %d", w, e, n, open)
	}
}

// fit holds Fits against an answer.
func fit(t *testing.T, name string, s api.State, m [][]api.Row, want bool) {
	t.Helper()
	if is := held(t, s, m); is != want {
		t.Errorf("%s: %t of %s, %v", name, is, text(s), m)
	}
}

// P16.1: Serial

// The example: of nothing: no sessions.
func TestNothing(t *testing.T) {
	for _, m := range [][][]api.Row{bare(), two()} {
		s := made(t, wide(api.PolicyCircle), m)
		want(t, s, text(s.Clock, "[] 0"), nil, text(m), 0)
		fit(t, "nothing", s, m, true)
		fit(t, "another map", s, [][]api.Row{{{Key: "q"}}, nil}, false)
		s = made(t, wide(api.PolicyDie), m, prog(commit()), reads(commit()), prog())
		want(t, s, text("r0 r0 r0 ", s.Clock, "[] 0"), nil, text(m), 3)
		fit(t, "none has begun", s, m, true)
	}
	m := two()
	s := picks(t, m, made(t, wide(api.PolicyDie), m, prog(put(0, "a", ""), commit()), reads(get(0, "a")), prog(put(0, "b", "")), prog(put(0, "c", ""), rollback())), 0, 1, 2, 3, 3)
	want(t, s, "r1(0  0) r1(0 1 0) r1(0  0) u2(0  0) 1[] 2", nil, text(m), 3)
	s = picks(t, m, s, 1, 2, 0)
	want(t, s, "w2(0  2) u1(0  0) u1(0  0) u2(0  0) 1[0] 1", nil, text(m), 1)
}

// Not as they began, nor as they stand in the list.
func TestByCommits(t *testing.T) {
	for _, policy := range policies() {
		l := list(prog(put(0, "a", "x"), commit()), prog(put(0, "b", "y"), commit()), prog(put(0, "c", "z"), commit()))
		m := two()
		s := picks(t, m, made(t, wide(policy), m, l...), 1, 0, 2, 2, 0, 1)
		want(t, s, "w2(0  3) w2(0  4) w2(0  2) 1[2 0 1] 3", nil, text(two()), 3)
		s = picks(t, m, s, 3)
		want(t, s, "d2(0  3) d2(0  4) d2(0  2) 4[] 0", []int{2, 0, 1}, "[[{a x} {b y} {c z}] [{x 9}]]", 0)
		s = picks(t, m, made(t, grouped(policy, 1), m, l...), 2, 1, 0, 1, 2, 0)
		want(t, s, "d2(0  4) d2(0  2) d2(0  3) 4[] 0", []int{1, 2, 0}, "[[{a x} {b y} {c z}] [{x 9}]]", 0)
	}
}

// Behind Snap 0, amid, and Clock; beside a commit of that number the commit is
// first, though it began later; several of one Snap stand by their ages.
func TestWhoReadsAlone(t *testing.T) {
	r := reads(scan(0, top(""), 9), commit())
	for _, policy := range policies() {
		m := bare()
		s := made(t, grouped(policy, 1), m, r, prog(put(0, "a", "x"), commit()), r, prog(put(0, "a", "y"), commit()), r, r)
		s = picks(t, m, s, 0, 1, 1, 5, 2, 3, 3, 4)
		want(t, s, "r1(0  0) d2(0  1) r1(0  0) d2(0  2) r1(0  0) r1(0  0) 2[] 0", []int{1, 3}, "[[{a y}] []]", 4)
		s = picks(t, m, s, 4, 2, 0, 5)
		want(t, s, "d2(0  0) d2(0  1) d2(0  0) d2(0  2) d2(0  0) d2(0  0) 2[] 0", []int{0, 1, 5, 2, 3, 4}, "[[{a y}] []]", 0)
		for n, saw := range map[int]string{0: "[]", 5: "[{a x}]", 2: "[{a x}]", 4: "[{a y}]"} {
			if told := text(s.Sessions[n].Answers[0].Rows); told != saw {
				t.Errorf("%d saw %s", n, told)
			}
		}
		// one that sees commit 1 is first of all to begin, and ends last
		m = two()
		s = picks(t, m, made(t, grouped(policy, 1), m, prog(cut(0, "a"), commit()), r), 1, 0, 0, 1)
		want(t, s, "d2(0  2) d2(0  0) 2[] 0", []int{1, 0}, "[[{b 2} {c 3}] [{x 9}]]", 0)
	}
}

// An updater stands behind the commit that was the last one as it ended, not as it
// began.
func TestWhoWroteNothing(t *testing.T) {
	r, u, w := reads(get(0, "a"), commit()), prog(get(1, "a"), commit()), prog(put(0, "a", "x"), commit())
	for _, policy := range policies() {
		m := bare()
		// N 0, beside one that reads alone with Snap 0: by ages
		s := picks(t, m, made(t, grouped(policy, 1), m, r, u, u, r, w), 2, 0, 1, 3, 3, 1, 2, 4, 4, 0)
		want(t, s, "d2(0  0) d2(0  0) d2(0  0) d2(0  0) d2(0  1) 1[] 0", []int{2, 0, 1, 3, 4}, "[[{a x}] []]", 0)
		// N amid and Clock: the commit is first
		s = picks(t, m, made(t, grouped(policy, 1), m, u, w, r, u, prog(put(0, "a", "y"), commit()), u), 0, 5, 3, 1, 1, 2, 3, 0, 4, 4, 2, 5)
		want(t, s, "d2(0  1) d2(0  1) d2(0  0) d2(0  1) d2(0  2) d2(0  2) 2[] 0", []int{1, 0, 3, 2, 4, 5}, "[[{a y}] []]", 0)
		// while others wait for a flush
		m = two()
		s = picks(t, m, made(t, wide(policy), m, w, u, r), 1, 0, 0, 2, 1, 2, 3)
		want(t, s, "d2(0  2) d2(0  1) d2(0  0) 2[] 0", []int{1, 2, 0}, "[[{a x} {b 2} {c 3}] [{x 9}]]", 0)
	}
}

// Whoever returned to a savepoint ahead of all its writes wrote nothing.
func TestWhoReturned(t *testing.T) {
	for _, policy := range policies() {
		m := two()
		s := made(t, grouped(policy, 1), m, prog(save(), put(0, "a", "x"), cut(0, "b"), get(0, "a"), back(0), get(0, "a"), commit()), prog(put(0, "c", "y"), commit()), prog(put(0, "d", "q"), save(), put(0, "e", "r"), back(0), commit()))
		s = picks(t, m, s, 0, 0, 0, 0, 1, 1, 0, 0, 2, 2, 2, 2, 2, 0)
		want(t, s, "d7(0  3) d2(0  2) d5(0  3) 3[] 0", []int{1, 2, 0}, "[[{a 1} {b 2} {c y} {d q}] [{x 9}]]", 0)
		if s.Sessions[0].Commit != 0 || s.Sessions[0].Answers[3].Value != "x" || s.Sessions[0].Answers[5].Value != "1" {
			t.Errorf("%s", text(s))
		}
	}
}

// Whoever waits for a flush is open, and not done.
func TestWhoWaits(t *testing.T) {
	for _, policy := range policies() {
		m := two()
		s := picks(t, m, made(t, wide(policy), m, prog(put(0, "a", "x"), commit()), reads(get(0, "a"), commit()), prog(get(0, "b"), commit())), 0, 0, 1, 1, 2, 2)
		want(t, s, "w2(0  2) d2(0  0) d2(0  1) 1[0] 1", []int{1, 2}, text(two()), 1)
		s = picks(t, m, s, 3)
		want(t, s, "d2(0  2) d2(0  0) d2(0  1) 2[] 0", []int{1, 2, 0}, "[[{a x} {b 2} {c 3}] [{x 9}]]", 0)
	}
}

// Nobody who is rolled back or taken back is told, nor counts as open.
func TestWhoIsUndone(t *testing.T) {
	m := two()
	l := list(prog(get(0, "a"), put(0, "b", "x"), commit()), prog(get(0, "b"), put(0, "a", "y"), commit()), prog(put(0, "c", "z"), rollback(), commit()), prog(put(1, "x", "")))
	s := picks(t, m, made(t, wide(api.PolicyCircle), m, l...), 0, 1, 2, 2, 3, 3, 0, 1, 0)
	want(t, s, "b2(0  0) r2(0  0) u2(0  0) u1(0  0) 1[] 4", nil, text(m), 2)
	s = picks(t, m, s, 1, 0, 4)
	want(t, s, "d3(0  2) u2(9  1) u2(0  0) u1(0  0) 2[] 0", []int{0}, "[[{a 1} {b x} {c 3}] [{x 9}]]", 0)
	l = list(prog(put(0, "a", "x"), commit()), prog(put(0, "a", "y"), commit()))
	s = picks(t, m, made(t, wide(api.PolicyDie), m, l...), 0, 1, 0, 2)
	want(t, s, "d2(0  2) u0(9  2) 2[] 0", []int{0}, "[[{a x} {b 2} {c 3}] [{x 9}]]", 0)
}

// P16.1: Fits

// full has one of each kind that is done, and others beside them; it came of two.
func full(t *testing.T) api.State {
	t.Helper()
	m := two()
	l := list(
		reads(get(0, "a"), put(0, "a", "q"), save(), scan(0, top(""), 2), commit()),
		prog(put(0, "a", "x"), save(), insert(0, "d", "4"), save(), release(1), cut(0, "b"), commit()),
		prog(get(0, "c"), save(), save(), hold(1, "z"), commit()),
		prog(hold(0, "a"), down(0, top(""), 9), put(1, "x", "8"), commit()),
		prog(put(0, "c", "w"), commit()),
		prog(get(1, "q"), put(1, "q", ""), rollback()),
	)
	s := picks(t, m, made(t, grouped(api.PolicyDie, 1), m, l...), 0, 1, 1, 1, 1, 1, 1, 1, 2, 2, 2, 2, 2, 0, 0, 0, 3, 3, 3, 3, 0, 4, 5, 5, 5)
	want(t, s, "d5(0  0) d7(0  2) d5(0  2) d4(0  3) r1(0  0) u3(0  0) 3[] 1", []int{0, 1, 2, 3}, "[[{a x} {c 3} {d 4}] [{x 8}]]", 1)
	return s
}

// turned is a state behind a change.
func turned(t *testing.T, do func(s *api.State)) api.State {
	t.Helper()
	s := full(t)
	do(&s)
	return s
}

// Each thing that was told counts, but for the number of the commit.
func TestEachAnswerCounts(t *testing.T) {
	s := full(t)
	fit(t, "as it is", s, two(), true)
	for n, x := range s.Sessions {
		for at := range x.Answers {
			isCommit := s.Programs[n].Ops[at].Kind == api.OpCommit
			for name, do := range map[string]func(a *api.Answer){
				"Err":         func(a *api.Answer) { a.Err++ },
				"Err below":   func(a *api.Answer) { a.Err-- },
				"Value":       func(a *api.Answer) { a.Value += "!" },
				"N":           func(a *api.Answer) { a.N += 5 },
				"N below":     func(a *api.Answer) { a.N-- },
				"a row more":  func(a *api.Answer) { a.Rows = append(slices.Clone(a.Rows), api.Row{Key: "zz"}) },
				"no row":      func(a *api.Answer) { a.Rows = nil },
				"a row's key": func(a *api.Answer) { a.Rows = slices.Clone(a.Rows); keyOf(a.Rows) },
				"a value":     func(a *api.Answer) { a.Rows = slices.Clone(a.Rows); valueOf(a.Rows) },
				"rows turned": func(a *api.Answer) { a.Rows = slices.Clone(a.Rows); slices.Reverse(a.Rows) },
			} {
				x := full(t)
				a := &x.Sessions[n].Answers[at]
				was := text(*a)
				do(a)
				same := text(*a) == was
				counts := x.Sessions[n].Status == api.IsDone && !same && !(isCommit && strings.HasPrefix(name, "N"))
				fit(t, text(n, " ", at, " ", name), x, two(), !counts)
			}
		}
	}
}

func keyOf(l []api.Row) {
	for at := range l {
		l[at].Key += "!"
	}
}

func valueOf(l []api.Row) {
	for at := range l {
		l[at].Value += "!"
	}
}

// What the commit of one told that wrote nothing moves it: there it fits, or not.
func TestMovedByItsNumber(t *testing.T) {
	m := two()
	// 2 saw c as it always was, and a behind commit 2
	s := made(t, grouped(api.PolicyDie, 1), m, prog(put(0, "a", "x"), commit()), prog(put(0, "a", "y"), commit()), prog(get(0, "c"), get(0, "a"), commit()))
	s = picks(t, m, s, 0, 0, 2, 2, 2, 1, 1)
	want(t, s, "d2(0  2) d2(0  3) d3(0  2) 3[] 0", []int{0, 2, 1}, "[[{a y} {b 2} {c 3}] [{x 9}]]", 0)
	for number, at := range map[int]int{math.MinInt: 0, -1: 0, 0: 0, 1: 0, 2: 1, 3: 2, 4: 2, math.MaxInt: 2} {
		x := s
		x.Sessions = slices.Clone(s.Sessions)
		x.Sessions[2].Answers = slices.Clone(s.Sessions[2].Answers)
		x.Sessions[2].Answers[2].N = number
		l, e := order.Serial(x)
		if e != api.OK || slices.Index(l, 2) != at || len(l) != 3 {
			t.Errorf("%d: %v, %v", number, e, l)
		}
		fit(t, text("N ", number), x, m, at == 1)
	}
	// and the Snap of one that reads alone
	s = made(t, grouped(api.PolicyDie, 1), m, prog(put(0, "a", "x"), commit()), prog(put(0, "a", "y"), commit()), reads(get(0, "c"), get(0, "a"), commit()))
	s = picks(t, m, s, 0, 0, 2, 1, 1, 2, 2)
	for snap, at := range []int{0, 0, 1, 2} {
		x := s
		x.Sessions = slices.Clone(s.Sessions)
		x.Sessions[2].Snap = snap
		l, e := order.Serial(x)
		if e != api.OK || slices.Index(l, 2) != at || len(l) != 3 {
			t.Errorf("%d: %v, %v", snap, e, l)
		}
		fit(t, text("Snap ", snap), x, m, at == 1)
	}
}

// The number that a commit told is left out wherever the Commit stands beside it,
// and of whoever reads alone.
func TestNumbersAreLeftOut(t *testing.T) {
	for _, number := range []int{math.MinInt, -1, 0, 1, 2, 3, 4, 99, math.MaxInt} {
		fit(t, "of a commit", turned(t, func(s *api.State) { s.Sessions[1].Answers[6].N = number }), two(), true)
		fit(t, "of the last commit", turned(t, func(s *api.State) { s.Sessions[3].Answers[3].N = number }), two(), true)
		fit(t, "of one that reads alone", turned(t, func(s *api.State) { s.Sessions[0].Answers[4].N = number }), two(), true)
		fit(t, "of a savepoint", turned(t, func(s *api.State) { s.Sessions[2].Answers[2].N = number }), two(), number == 1)
		fit(t, "of a savepoint of one that reads alone", turned(t, func(s *api.State) { s.Sessions[0].Answers[2].N = number }), two(), number == 0)
		fit(t, "of a put", turned(t, func(s *api.State) { s.Sessions[1].Answers[0].N = number }), two(), number == 0)
	}
}

// Of those that are not done nothing counts.
func TestOfOthersNothingCounts(t *testing.T) {
	for name, do := range map[string]func(s *api.State){
		"an answer of one that is ready":  func(s *api.State) { s.Sessions[4].Answers[0] = api.Answer{Err: 77, Value: "q", N: 4, Rows: rows(2)} },
		"an answer of one that is undone": func(s *api.State) { s.Sessions[5].Answers[0].Value = "q" },
		"an op of one that is ready":      func(s *api.State) { s.Programs[4].Ops[0].Value = "q" },
		"an op of one that is undone":     func(s *api.State) { s.Programs[5].Ops[1].Key = "r" },
		"what is pending":                 func(s *api.State) { s.Sessions[4].Pend.List[0].Value = "q" },
		"the log":                         func(s *api.State) { s.Log[1].Writes[0].Value = "q" },
	} {
		fit(t, name, turned(t, do), two(), true)
	}
}

func TestEachVersionCounts(t *testing.T) {
	for name, do := range map[string]func(s *api.State){
		"a value":            func(s *api.State) { s.Tables[0].Rows[0].List[0].Value = "q" },
		"an untouched value": func(s *api.State) { s.Tables[0].Rows[2].List[0].Value = "q" },
		"the last value":     func(s *api.State) { s.Tables[1].Rows[0].List[0].Value = "9" },
		"gone":               func(s *api.State) { s.Tables[0].Rows[2].List[0] = api.Version{Commit: 1, Gone: true} },
		"gone no more":       func(s *api.State) { s.Tables[0].Rows[1].List = s.Tables[0].Rows[1].List[1:] },
		"a key":              func(s *api.State) { s.Tables[1].Rows[0].Key = "y" },
		"a row less":         func(s *api.State) { s.Tables[0].Rows = s.Tables[0].Rows[:2] },
		"no rows":            func(s *api.State) { s.Tables[1].Rows = nil },
		"a row more": func(s *api.State) {
			s.Tables[1].Rows = append(s.Tables[1].Rows, api.Chain{Key: "y", List: []api.Version{{Commit: 1}}})
		},
		"tables turned": func(s *api.State) { slices.Reverse(s.Tables) },
		"a version more": func(s *api.State) {
			s.Tables[1].Rows[0].List = append([]api.Version{{Commit: s.Tables[1].Rows[0].List[0].Commit, Value: "7"}}, api.Version{Commit: 2})
		},
	} {
		fit(t, name, turned(t, do), two(), false)
	}
	for name, do := range map[string]func(s *api.State){
		"an older version": func(s *api.State) {
			s.Tables[1].Rows[0].List = []api.Version{{Commit: 3, Value: "8"}, {Commit: 2, Gone: true}, {Commit: 1, Value: "q"}}
		},
		"another commit": func(s *api.State) { s.Tables[0].Rows[2].List[0].Commit = 3 },
		"one that is gone": func(s *api.State) {
			s.Tables[1].Rows = append(s.Tables[1].Rows, api.Chain{Key: "y", List: []api.Version{{Commit: 3, Gone: true}, {Commit: 1, Value: "v"}}})
		},
	} {
		fit(t, name, turned(t, do), two(), true)
	}
}

func TestEachProgramCounts(t *testing.T) {
	for name, do := range map[string]func(s *api.State){
		"another value is put":      func(s *api.State) { s.Programs[1].Ops[0].Value = "q" },
		"another key is put":        func(s *api.State) { s.Programs[1].Ops[0].Key = "q" },
		"another table":             func(s *api.State) { s.Programs[3].Ops[2].Table = 0 },
		"another key is got":        func(s *api.State) { s.Programs[2].Ops[0].Key = "a" },
		"another key is gone":       func(s *api.State) { s.Programs[1].Ops[5].Key = "c" },
		"a put less":                func(s *api.State) { s.Programs[3].Ops[2] = get(1, "x") },
		"no delete":                 func(s *api.State) { s.Programs[1].Ops[5] = release(0) },
		"another scan":              func(s *api.State) { s.Programs[3].Ops[1].Back = false },
		"a scan of fewer":           func(s *api.State) { s.Programs[0].Ops[3].N = 1 },
		"reads alone":               func(s *api.State) { s.Programs[2].Only = true },
		"writes, instead of reads":  func(s *api.State) { s.Programs[0].Only = false },
		"is rolled back":            func(s *api.State) { s.Programs[3].Ops[2] = rollback() },
		"commits amid":              func(s *api.State) { s.Programs[2].Ops[1] = commit() },
		"commits ahead of the last": func(s *api.State) { s.Programs[2].Ops[3] = commit() },
	} {
		fit(t, name, turned(t, do), two(), false)
	}
	for name, do := range map[string]func(s *api.State){
		"another hold that tells the same": func(s *api.State) { s.Programs[2].Ops[3].Key = "zz" },
		"a get instead of a hold":          func(s *api.State) { s.Programs[2].Ops[3].Kind = api.OpGet },
		"a put instead of an insert":       func(s *api.State) { s.Programs[1].Ops[2].Kind = api.OpPut },
		"a scan of as many":                func(s *api.State) { s.Programs[3].Ops[1].N = 3 },
		"ops behind the commit":            func(s *api.State) { s.Programs[1].Ops = append(s.Programs[1].Ops, put(0, "q", ""), commit()) },
	} {
		fit(t, name, turned(t, do), two(), true)
	}
}

// What is told of commits behind one another is that of no program: the first one
// ends it.
func TestMoreAnswersThanAreTold(t *testing.T) {
	for name, l := range map[string][]api.Op{
		"behind a commit":   {commit(), commit()},
		"behind a rollback": {rollback(), commit()},
		"far behind":        {commit(), save(), save(), commit()},
		"of two savepoints": {save(), commit(), commit()},
	} {
		for _, only := range []bool{false, true} {
			g := api.Program{Only: only, Ops: l}
			s := made(t, wide(api.PolicyDie), two(), g)
			s.Ages = 1
			s.Sessions[0] = api.Session{Status: api.IsDone, At: len(l), Age: 1, Snap: 1, Answers: make([]api.Answer, len(l))}
			if strings.HasPrefix(name, "far") {
				s.Sessions[0].Answers[2].N = 1
			}
			fit(t, name, s, two(), false)
			s.Programs[0].Ops = append(l[len(l)-1:len(l):len(l)], l...)
			s.Sessions[0].At, s.Sessions[0].Answers = 1, make([]api.Answer, 1)
			fit(t, name+": the first one alone", s, two(), true)
		}
	}
}

// Commits that change places tell other things.
func TestCommitsTurned(t *testing.T) {
	swap := func(s *api.State) {
		s.Sessions[1].Commit, s.Sessions[3].Commit = s.Sessions[3].Commit, s.Sessions[1].Commit
	}
	s := turned(t, swap)
	if l, e := order.Serial(s); e != api.OK || !slices.Equal(l, []int{0, 3, 2, 1}) {
		t.Errorf("%v, %v", e, l)
	}
	fit(t, "turned", s, two(), false)
	// behind a commit that is now none, by what its OpCommit told
	fit(t, "none", turned(t, func(s *api.State) { s.Sessions[3].Commit = 0 }), two(), true)
	fit(t, "another", turned(t, func(s *api.State) { s.Sessions[3].Commit = 1 }), two(), false)
	// writes that don't meet count in any order
	m := two()
	s = picks(t, m, made(t, grouped(api.PolicyCircle, 2), m, prog(put(0, "a", "x"), commit()), prog(put(0, "b", "y"), commit())), 0, 1, 1, 0)
	fit(t, "as they came", s, m, true)
	s.Sessions[0].Commit, s.Sessions[1].Commit = 2, 3
	if l, e := order.Serial(s); e != api.OK || !slices.Equal(l, []int{0, 1}) {
		t.Errorf("%v, %v", e, l)
	}
	fit(t, "turned, and apart", s, m, true)
}

// Another map fits where nobody is told of it, and nothing is left of it.
func TestOtherMaps(t *testing.T) {
	s := full(t)
	for name, x := range map[string]struct {
		m    [][]api.Row
		fits bool
	}{
		"another value that is read":     {[][]api.Row{{{Key: "a", Value: "0"}, {Key: "b", Value: "2"}, {Key: "c", Value: "3"}}, two()[1]}, false},
		"another value that is left":     {[][]api.Row{{{Key: "a", Value: "1"}, {Key: "b", Value: "2"}, {Key: "c", Value: "4"}}, two()[1]}, false},
		"another value that is put over": {[][]api.Row{two()[0], {{Key: "x", Value: "q"}}}, true},
		"no row where one is put":        {[][]api.Row{two()[0], nil}, true},
		"a row more":                     {[][]api.Row{two()[0], {{Key: "w"}, {Key: "x", Value: "9"}}}, false},
		"a row more that is held":        {[][]api.Row{two()[0], {{Key: "x", Value: "9"}, {Key: "z"}}}, false},
		"a row more that is inserted":    {[][]api.Row{append(two()[0], api.Row{Key: "d", Value: "4"}), two()[1]}, false},
		"a row less":                     {[][]api.Row{{{Key: "a", Value: "1"}, {Key: "b", Value: "2"}}, two()[1]}, false},
		"no rows":                        {bare(), false},
		"the map behind them":            {mapOf(s), false},
		"turned":                         {[][]api.Row{two()[1], two()[0]}, false},
		"many rows":                      {[][]api.Row{rows(200), rows(100)}, false},
	} {
		fit(t, name, s, x.m, x.fits)
	}
}

// A map may have more rows than a table has room for; in the end they must be
// there.
func TestMoreRowsThanRoom(t *testing.T) {
	all := rows(api.MaxRooms + 6)
	var g api.Program
	var rest []api.Row
	for at, r := range all {
		if at%7 == 0 {
			g.Ops = append(g.Ops, cut(0, r.Key))
		} else {
			rest = append(rest, r)
		}
	}
	g.Ops = append(g.Ops, scan(0, top("k06"), 99), commit())
	c := wide(api.PolicyDie)
	c.Tables, c.Versions = 1, api.MaxRooms
	s := made(t, c, [][]api.Row{rest}, g)
	n := len(g.Ops)
	s.Ages = 1
	s.Sessions[0] = api.Session{Status: api.IsDone, At: n, Age: 1, Answers: make([]api.Answer, n), Commit: 1}
	fit(t, "no rows told", s, [][]api.Row{all}, false)
	s.Sessions[0].Answers[n-2].Rows = slices.DeleteFunc(slices.Clone(rest), func(r api.Row) bool { return r.Key < "k06" })
	fit(t, "as told", s, [][]api.Row{all}, true)
	fit(t, "a row less", s, [][]api.Row{all[1:]}, false)
	fit(t, "the rest", s, [][]api.Row{rest}, false)
}

func TestErrorsOfFits(t *testing.T) {
	for n, c := range []api.Config{wide(api.PolicyDie), {Tables: 1, Locks: 9, Versions: 9, Group: 1, Policy: api.PolicyCircle}, {Tables: 3, Locks: 9, Versions: 9, Group: 1, Policy: api.PolicyCircle}} {
		right := make([][]api.Row, c.Tables)
		s := made(t, c, right, prog(put(0, "a", ""), commit()), reads(commit()))
		fit(t, "right", s, right, true)
		wrong := [][][]api.Row{nil, {}, right[1:], append(slices.Clone(right), nil), make([][]api.Row, 4), make([][]api.Row, 99)}
		for _, l := range [][]api.Row{
			{{Key: "b"}, {Key: "a"}}, {{Key: "a"}, {Key: "a"}}, {{Key: ""}}, {{Key: long(13)}}, {{Key: "a", Value: long(21)}}, append(rows(99), api.Row{Key: "k"}),
		} {
			for t := range right {
				m := slices.Clone(right)
				m[t] = l
				wrong = append(wrong, m)
			}
		}
		for at, m := range wrong {
			was := text(m)
			if is, e := order.Fits(s, m); is || e != api.ErrForm || text(m) != was {
				t.Errorf("%d, %d: %t, %v", n, at, is, e)
			}
		}
		for at, l := range [][]api.Row{{{Key: long(12), Value: long(20)}}, {{Key: "\x00"}, {Key: "\x00\x00"}, {Key: "\xff", Value: "\xfe"}}, rows(api.MaxRooms), rows(300)} {
			m := slices.Clone(right)
			m[c.Tables-1] = l
			fit(t, text("edge ", at), s, m, false)
		}
	}
}

// P16.2: Map, Open

func TestMapAtClock(t *testing.T) {
	m := [][]api.Row{{{Key: "a", Value: "1"}, {Key: "b", Value: ""}}, nil, {{Key: "b", Value: "2"}}}
	c := grouped(api.PolicyCircle, 1)
	c.Tables = 3
	s := made(t, c, m, reads(get(0, "a"), commit()), prog(put(0, "a", "x"), cut(2, "b"), insert(1, "q", "r"), commit()), prog(put(0, "a", "y"), cut(0, "b"), commit()))
	want(t, s, "r0 r0 r0 1[] 0", nil, "[[{a 1} {b }] [] [{b 2}]]", 3)
	s = picks(t, m, s, 0, 1, 1, 1, 1)
	want(t, s, "r1(0 1 0) d4(0  2) r0 2[] 0", []int{1}, "[[{a x} {b }] [{q r}] []]", 2)
	s = picks(t, m, s, 2, 2)
	want(t, s, "r1(0 1 0) d4(0  2) r2(0  0) 2[] 2", []int{1}, "[[{a x} {b }] [{q r}] []]", 2)
	s = picks(t, m, s, 2)
	want(t, s, "r1(0 1 0) d4(0  2) d3(0  3) 3[] 0", []int{1, 2}, "[[{a y}] [{q r}] []]", 1)
}

// What one that reads alone sees stays through a flush; behind its end it goes,
// and the map is the same.
func TestMapThroughFlushes(t *testing.T) {
	m := two()
	l := list(reads(get(0, "a"), get(0, "a"), scan(0, top(""), 9), commit()), prog(put(0, "a", "x"), cut(0, "b"), commit()), prog(put(0, "c", "y"), commit()))
	s := picks(t, m, made(t, wide(api.PolicyDie), m, l...), 0, 1, 1, 1, 3, 0)
	want(t, s, "r2(0 1 0) d3(0  2) r0 2[] 0", []int{1}, "[[{a x} {c 3}] [{x 9}]]", 2)
	if n := len(s.Tables[0].Rows[0].List); n != 2 {
		t.Errorf("%d", n)
	}
	s = picks(t, m, s, 2, 2, 3, 0, 3)
	want(t, s, "r3(0  0) d3(0  2) d2(0  3) 3[] 0", []int{1, 2}, "[[{a x} {c y}] [{x 9}]]", 1)
	if text(s.Sessions[0].Answers[2].Rows) != text(two()[0]) || len(s.Tables[0].Rows) != 3 {
		t.Errorf("%s", text(s))
	}
	s = picks(t, m, s, 0)
	want(t, s, "d4(0  0) d3(0  2) d2(0  3) 3[] 0", []int{0, 1, 2}, "[[{a x} {c y}] [{x 9}]]", 0)
	s = picks(t, m, s, 3)
	want(t, s, "d4(0  0) d3(0  2) d2(0  3) 3[] 0", []int{0, 1, 2}, "[[{a x} {c y}] [{x 9}]]", 0)
	if text(s.Tables[0]) != "{[{a [{2 x false}]} {c [{3 y false}]}]}" {
		t.Errorf("%v", s.Tables[0])
	}
}

// As many rows as may be: there is no room for one more.
func TestFullMaps(t *testing.T) {
	c := wide(api.PolicyCircle)
	c.Versions = api.MaxRooms
	for _, m := range [][][]api.Row{{rows(api.MaxRooms), nil}, {nil, rows(api.MaxRooms)}, {rows(30), rows(34)}} {
		l := list(prog(put(0, "k", "q"), commit()), prog(cut(0, "k001"), commit()), prog(scan(1, top(""), 99), commit()), reads(down(0, top(""), 99), commit()))
		s := picks(t, m, made(t, c, m, l...), 0, 1, 1, 2, 2, 3, 3, 4, 1)
		if x := s.Sessions[0]; x.Status != api.IsUndone || x.Answers[0].N != api.WhyRoom {
			t.Errorf("%s", tell(s))
		}
		if x, e := order.Map(s); e != api.OK || text(x) != text(m) {
			t.Errorf("%v, %v", e, x)
		}
	}
	// and one less
	m := [][]api.Row{rows(api.MaxRooms - 1), nil}
	s := picks(t, m, made(t, c, m, prog(put(1, "k", "q"), commit()), prog(put(1, "k", "r"), commit())), 0, 0, 2, 1)
	want(t, s, "d2(0  2) u0(9  4) 2[] 0", []int{0}, text([][]api.Row{m[0], {{Key: "k", Value: "q"}}}), 0)
}

func TestOpen(t *testing.T) {
	m := two()
	l := list(prog(put(0, "a", "x"), commit()), prog(put(0, "a", "y"), commit()), reads(commit()), prog(rollback()), prog(), reads())
	s := made(t, wide(api.PolicyCircle), m, l...)
	for _, x := range []struct{ n, open int }{{0, 6}, {2, 5}, {3, 4}, {4, 3}, {5, 2}, {1, 2}, {0, 2}, {6, 1}, {1, 1}, {1, 1}, {6, 0}, {0, 0}, {6, 0}} {
		s = picked(t, m, s, x.n)
		if n, e := order.Open(s); e != api.OK || n != x.open {
			t.Errorf("behind a pick of %d: %v, %d, not %d: %s", x.n, e, n, x.open, tell(s))
		}
	}
	want(t, s, "d2(0  2) d2(0  3) d1(0  0) u1(0  0) u0(0  0) u0(0  0) 3[] 0", []int{2, 0, 1}, "[[{a y} {b 2} {c 3}] [{x 9}]]", 0)
}
