package order_test

import (
	"math"
	"slices"
	"strconv"
	"testing"

	"quorum/api"
	"quorum/key"
	"quorum/order"
)

// States that may not be, and such as may, though no picks lead there.

// rich has a session of each kind: one that waits, one with own writes and marks,
// one that reads alone, one that is done with nothing, one that has not begun, one
// that is blocked.
func rich(t *testing.T) api.State {
	t.Helper()
	s := made(t, wide(api.PolicyCircle), two(), prog(put(0, "a", "x"), commit()), prog(get(0, "b"), save(), put(0, "c", "y"), commit()), reads(get(0, "a"), commit()), prog(commit()), prog(get(0, "q")), prog(put(0, "b", "z"), commit()))
	s = picks(t, two(), s, 0, 0, 1, 1, 1, 2, 3, 5, 5)
	if w := "w2(0  2) r3(0  0) r1(0 1 0) d1(0  1) r0 b1(0  0) 1[0] 4"; tell(s) != w {
		t.Fatalf("%s, not %s", tell(s), w)
	}
	return s
}

// late has two that wait, a Clock of 2, versions that are kept for one that reads
// alone, one that reads alone and is done, one that is rolled back, and one that
// is done with a number.
func late(t *testing.T) api.State {
	t.Helper()
	s := made(t, grouped(api.PolicyDie, 3), two(), prog(put(0, "a", "x"), commit(), save()), reads(save(), get(0, "a"), put(0, "a", "")), reads(get(0, "b"), commit()), prog(put(0, "d", "")), prog(put(1, "x", "2"), put(1, "y", "3"), cut(1, "x"), commit()), prog(cut(0, "b"), commit()))
	s = picks(t, two(), s, 1, 2, 2, 0, 0, 6, 3, 3, 4, 4, 4, 4, 5, 5)
	if w := "d2(0  2) r1(0  0) d2(0  0) u1(0  0) w4(0  3) w2(0  4) 2[4 5] 3"; tell(s) != w {
		t.Fatalf("%s, not %s", tell(s), w)
	}
	return s
}

// turn is a thing of a state, turned.
type turn struct {
	name string
	do   func(s *api.State)
}

// wrong holds all calls of a state that may not be, with maps that may be and such
// as may not.
func wrong(t *testing.T, name string, s api.State) {
	t.Helper()
	was := text(s)
	if l, e := order.Serial(s); e != api.ErrForm || len(l) != 0 {
		t.Errorf("%s: Serial: %v, %v", name, e, l)
	}
	if m, e := order.Map(s); e != api.ErrForm || len(m) != 0 {
		t.Errorf("%s: Map: %v, %v", name, e, m)
	}
	if n, e := order.Open(s); e != api.ErrForm || n != 0 {
		t.Errorf("%s: Open: %v, %d", name, e, n)
	}
	for tables := range api.MaxTables + 2 {
		if is, e := order.Fits(s, make([][]api.Row, tables)); e != api.ErrForm || is {
			t.Errorf("%s: Fits of %d tables: %v, %t", name, tables, e, is)
		}
	}
	for _, m := range [][][]api.Row{two(), {{{Key: ""}}, nil}} {
		if is, e := order.Fits(s, m); e != api.ErrForm || is {
			t.Errorf("%s: Fits: %v, %t", name, e, is)
		}
	}
	if text(s) != was {
		t.Errorf("%s: it became %s", name, text(s))
	}
}

func wrongTurns(t *testing.T, of func(t *testing.T) api.State, l []turn) {
	t.Helper()
	for _, x := range l {
		s := of(t)
		x.do(&s)
		wrong(t, x.name, s)
	}
}

// rightTurns are such as may be: all calls are held against the words.
func rightTurns(t *testing.T, of func(t *testing.T) api.State, l []turn) {
	t.Helper()
	for _, x := range l {
		s := of(t)
		x.do(&s)
		for _, m := range [][][]api.Row{two(), bare(), mapOf(s)} {
			held(t, s, m)
		}
	}
}

func TestConfigAndProgramsOfStates(t *testing.T) {
	wrongTurns(t, rich, []turn{
		{"no tables", func(s *api.State) { s.Config.Tables = 0 }}, {"more tables", func(s *api.State) { s.Config.Tables = 3 }}, {"fewer tables", func(s *api.State) { s.Config.Tables = 1 }},
		{"tables beyond", func(s *api.State) { s.Config.Tables, s.Tables = 4, make([]api.Table, 4) }}, {"no locks", func(s *api.State) { s.Config.Locks = 0 }}, {"locks beyond", func(s *api.State) { s.Config.Locks = api.MaxLocks + 1 }},
		{"no versions", func(s *api.State) { s.Config.Versions = 0 }}, {"versions beyond", func(s *api.State) { s.Config.Versions = api.MaxRooms + 1 }}, {"no group", func(s *api.State) { s.Config.Group = 0 }},
		{"group beyond", func(s *api.State) { s.Config.Group = api.MaxGroup + 1 }}, {"no policy", func(s *api.State) { s.Config.Policy = api.PolicyNone }}, {"policy beyond", func(s *api.State) { s.Config.Policy = 3 }},
		{"an op", func(s *api.State) { s.Programs[0].Ops[0].Key = "" }}, {"an op that has not come", func(s *api.State) { s.Programs[4].Ops[0].Table = 2 }}, {"an op's rest", func(s *api.State) { s.Programs[3].Ops[0].N = 1 }},
		{"many ops", func(s *api.State) {
			s.Programs[4].Ops = slices.Repeat([]api.Op{save()}, api.MaxOps+1)
		}},
		{"a program less", func(s *api.State) { s.Programs = s.Programs[:5] }}, {"a session less", func(s *api.State) { s.Sessions = s.Sessions[:5] }}, {"no programs", func(s *api.State) { s.Programs = nil }},
		{"no sessions", func(s *api.State) { s.Sessions = nil }}, {"a session more", func(s *api.State) { s.Sessions = append(s.Sessions, api.Session{}) }},
		{"seven programs", func(s *api.State) {
			s.Programs, s.Sessions = append(s.Programs, prog()), append(s.Sessions, api.Session{})
		}},
	})
	// the last one has not begun, so that nothing else tells of it
	s := made(t, wide(api.PolicyDie), two(), prog(get(0, "a")), prog(get(0, "a")))
	s.Sessions = s.Sessions[:1]
	wrong(t, "a session less that has not begun", s)
	wrong(t, "nothing at all", api.State{})
	wrong(t, "Config alone", api.State{Config: wide(api.PolicyDie)})
}

func TestTablesOfStates(t *testing.T) {
	wrongTurns(t, rich, []turn{
		{"a table less", func(s *api.State) { s.Tables = s.Tables[:1] }}, {"a table more", func(s *api.State) { s.Tables = append(s.Tables, api.Table{}) }}, {"no tables", func(s *api.State) { s.Tables = nil }},
		{"a version above Clock", func(s *api.State) { s.Tables[0].Rows[0].List[0].Commit = 2 }}, {"the last one above Clock", func(s *api.State) { s.Tables[1].Rows[0].List[0].Commit = 2 }},
		{"the newest above Clock", func(s *api.State) {
			s.Tables[1].Rows[0].List = append([]api.Version{{Commit: 2}}, s.Tables[1].Rows[0].List...)
		}},
		{"commit 0", func(s *api.State) { s.Tables[0].Rows[0].List[0].Commit = 0 }}, {"falling keys", func(s *api.State) { s.Tables[0].Rows[0].Key = "z" }}, {"a key twice", func(s *api.State) { s.Tables[0].Rows[0].Key = "b" }},
		{"no key", func(s *api.State) { s.Tables[1].Rows[0].Key = "" }}, {"no versions", func(s *api.State) { s.Tables[1].Rows[0].List = nil }}, {"a value beyond", func(s *api.State) { s.Tables[1].Rows[0].List[0].Value = long(21) }},
		{"gone with a value", func(s *api.State) { s.Tables[1].Rows[0].List[0].Gone = true }},
	})
	rightTurns(t, rich, []turn{
		{"gone", func(s *api.State) { s.Tables[0].Rows[1].List[0] = api.Version{Commit: 1, Gone: true} }}, {"no rows", func(s *api.State) { s.Tables[0].Rows = nil }}, {"another value", func(s *api.State) { s.Tables[1].Rows[0].List[0].Value = "" }},
		{"a row more", func(s *api.State) {
			s.Tables[1].Rows = append(s.Tables[1].Rows, api.Chain{Key: "y", List: []api.Version{{Commit: 1}}})
		}},
	})
	wrongTurns(t, late, []turn{{"rising commits", func(s *api.State) { slices.Reverse(s.Tables[0].Rows[0].List) }}})
}

func lockOf(owner, table int, r api.Range, mode int) api.Lock {
	return api.Lock{Owner: owner, Table: table, Keys: r, Mode: mode}
}

func withLock(owner, table int, r api.Range, mode int) func(s *api.State) {
	return func(s *api.State) { s.Locks = append(s.Locks, lockOf(owner, table, r, mode)) }
}

func TestLocksOfStates(t *testing.T) {
	wrongTurns(t, rich, []turn{
		{"of one that is done", withLock(3, 1, to("k", "l"), api.ModeR)}, {"of one that reads alone", withLock(2, 1, to("k", "l"), api.ModeR)}, {"of one that has not begun", withLock(4, 1, to("k", "l"), api.ModeR)},
		{"of one that is not", withLock(6, 1, to("k", "l"), api.ModeR)}, {"of one below 0", withLock(-1, 1, to("k", "l"), api.ModeR)}, {"of one beyond", withLock(api.MaxNum, 1, to("k", "l"), api.ModeR)},
		{"no mode", withLock(0, 1, to("k", "l"), api.ModeNone)}, {"a mode beyond", withLock(0, 1, to("k", "l"), api.ModeC+1)}, {"a table below 0", withLock(0, -1, to("k", "l"), api.ModeR)}, {"a table beyond", withLock(0, api.MaxTables, to("k", "l"), api.ModeR)},
		{"a range that may not be", withLock(0, 1, to("l", "k"), api.ModeR)}, {"twice", func(s *api.State) { s.Locks = append(s.Locks, s.Locks[1]) }}, {"not beside a lock to certify", withLock(1, 0, to("a", "b"), api.ModeR)},
		{"not beside a lock to write", withLock(5, 0, key.All(), api.ModeW)}, {"a lock's owner", func(s *api.State) { s.Locks[0].Owner = 3 }},
		{"too many", func(s *api.State) {
			s.Config.Locks = api.MaxLocks
			for i := range api.MaxLocks {
				s.Locks = append(s.Locks, lockOf(1, 1, to(strconv.Itoa(i), "x"), api.ModeR))
			}
		}},
	})
	wrongTurns(t, late, []turn{
		{"of one that is done with a number", withLock(0, 1, to("k", "l"), api.ModeR)}, {"of one that reads alone", withLock(1, 1, to("k", "l"), api.ModeR)}, {"of one that is done", withLock(2, 1, to("k", "l"), api.ModeR)},
		{"of one that is undone", withLock(3, 1, to("k", "l"), api.ModeR)},
	})
	rightTurns(t, rich, []turn{
		{"of one that waits", withLock(0, 1, to("k", "l"), api.ModeW)}, {"of one that is ready", withLock(1, 1, to("k", "l"), api.ModeC)}, {"of one that is blocked", withLock(5, 1, key.All(), api.ModeC)},
		{"of a table beyond Config", withLock(1, 2, to("k", "l"), api.ModeR)}, {"none", func(s *api.State) { s.Locks = nil }}, {"more than Config says", func(s *api.State) { s.Config.Locks = 1 }}, {"of no keys", withLock(1, 0, to("a", "a"), api.ModeC)},
	})
}

func TestSessionsOfStates(t *testing.T) {
	wrongTurns(t, rich, []turn{
		{"a status below", func(s *api.State) { s.Sessions[1].Status = -1 }}, {"a status beyond", func(s *api.State) { s.Sessions[1].Status = api.IsUndone + 1 }}, {"At below 0", func(s *api.State) { s.Sessions[1].At, s.Sessions[1].Answers = -1, nil }},
		{"At beyond", func(s *api.State) { s.Sessions[1].At, s.Sessions[1].Answers = 5, make([]api.Answer, 5) }}, {"At of one that has not begun", func(s *api.State) { s.Sessions[4].At, s.Sessions[4].Answers = 1, make([]api.Answer, 1) }},
		{"At alone", func(s *api.State) { s.Sessions[1].At = 2 }}, {"fewer answers", func(s *api.State) { s.Sessions[1].Answers = s.Sessions[1].Answers[:2] }}, {"more answers", func(s *api.State) { s.Sessions[1].Answers = append(s.Sessions[1].Answers, api.Answer{}) }},
		{"answers of one that has not begun", func(s *api.State) { s.Sessions[4].Answers = make([]api.Answer, 1) }}, {"more answers of one that is done", func(s *api.State) { s.Sessions[3].Answers = append(s.Sessions[3].Answers, api.Answer{}) }},
		{"more answers of one that waits", func(s *api.State) { s.Sessions[0].Answers = append(s.Sessions[0].Answers, api.Answer{}) }}, {"fewer answers of one that waits", func(s *api.State) { s.Sessions[0].Answers = s.Sessions[0].Answers[:1] }},
		{"more answers of one that is blocked", func(s *api.State) { s.Sessions[5].Answers = append(s.Sessions[5].Answers, api.Answer{}) }}, {"more answers of one that reads alone", func(s *api.State) { s.Sessions[2].Answers = append(s.Sessions[2].Answers, api.Answer{}) }},
		{"blocked before it began", func(s *api.State) { s.Sessions[4].Status = api.IsBlocked }}, {"done before it began", func(s *api.State) { s.Sessions[4].Status = api.IsDone }}, {"undone before it began", func(s *api.State) { s.Sessions[4].Status = api.IsUndone }},
		{"undone before it began, with its answer", func(s *api.State) { s.Sessions[4].Status, s.Sessions[4].Answers = api.IsUndone, make([]api.Answer, 1) }},
		{"blocked, and reads alone", func(s *api.State) { s.Sessions[2].Status = api.IsBlocked }}, {"done without an OpCommit", func(s *api.State) { s.Sessions[2].Status = api.IsDone }},
		{"done with nothing told", func(s *api.State) { s.Sessions[3].At, s.Sessions[3].Answers = 0, nil }}, {"done behind another op", func(s *api.State) { s.Programs[3].Ops[0] = save() }}, {"waits behind another op", func(s *api.State) { s.Programs[0].Ops[1] = save() }},
		{"Snap below 0", func(s *api.State) { s.Sessions[2].Snap = -1 }}, {"Snap above Clock", func(s *api.State) { s.Sessions[2].Snap = 2 }}, {"Snap above Clock of one that writes", func(s *api.State) { s.Sessions[1].Snap = 2 }},
		{"Snap above Clock of one that has not begun", func(s *api.State) { s.Sessions[4].Snap = 2 }}, {"Snap below 0 of one that has not begun", func(s *api.State) { s.Sessions[4].Snap = -1 }},
	})
	wrongTurns(t, late, []turn{
		{"undone, At below 0", func(s *api.State) { s.Sessions[3].At, s.Sessions[3].Answers = -1, nil }},
		{"undone with two answers more", func(s *api.State) { s.Sessions[3].Answers = make([]api.Answer, 3) }}, {"undone with an answer less", func(s *api.State) { s.Sessions[3].Answers = nil }},
		{"waits, and reads alone", func(s *api.State) {
			s.Sessions[2].Status, s.Sessions[2].Commit, s.Queue, s.Log = api.IsWaiting, 5, append(s.Queue, 2), append(s.Log, api.Record{Commit: 5})
		}},
		{"done, reads alone, with a number", func(s *api.State) { s.Sessions[2].Commit = 1 }},
	})
	rightTurns(t, rich, []turn{
		{"a Snap of one that writes", func(s *api.State) { s.Sessions[1].Snap = 1 }}, {"a Snap of one that has not begun", func(s *api.State) { s.Sessions[4].Snap = 1 }}, {"Snap 0", func(s *api.State) { s.Sessions[2].Snap = 0 }},
		{"not blocked", func(s *api.State) { s.Sessions[5].Status = api.IsReady }}, {"blocked", func(s *api.State) { s.Sessions[1].Status = api.IsBlocked }}, {"other answers", func(s *api.State) { s.Sessions[0].Answers[1] = api.Answer{Err: -5, Value: long(99), Rows: rows(70)} }},
		{"blocked behind its last op", func(s *api.State) {
			s.Programs[5].Ops = s.Programs[5].Ops[:1]
		}},
		{"blocked at an op that needs no lock", func(s *api.State) { s.Programs[5].Ops[1] = save() }},
		{"behind a commit, and ready", func(s *api.State) { s.Sessions[3].Status = api.IsReady }},
		{"undone, and reads alone", func(s *api.State) { s.Sessions[2].Status = api.IsUndone }},
	})
	rightTurns(t, late, []turn{
		{"undone with as many answers", func(s *api.State) { s.Sessions[3].Answers = s.Sessions[3].Answers[:1] }}, {"undone ahead of all", func(s *api.State) { s.Sessions[3].At, s.Sessions[3].Answers = 0, nil }},
		{"undone behind a commit", func(s *api.State) { s.Sessions[0].Status, s.Sessions[0].Commit = api.IsUndone, 0 }},
	})
}

func TestAgesOfStates(t *testing.T) {
	wrongTurns(t, rich, []turn{
		{"an age more", func(s *api.State) { s.Ages = 6 }}, {"an age less", func(s *api.State) { s.Ages = 4 }}, {"no ages", func(s *api.State) { s.Ages = 0 }}, {"ages below 0", func(s *api.State) { s.Ages = -5 }}, {"alike", func(s *api.State) { s.Sessions[1].Age = 1 }},
		{"beyond", func(s *api.State) { s.Sessions[1].Age = 6 }}, {"below 0", func(s *api.State) { s.Sessions[1].Age = -1 }}, {"one that has begun has none", func(s *api.State) { s.Sessions[1].Age = 0 }},
		{"one that has begun has none, nor Ages", func(s *api.State) { s.Sessions[5].Age, s.Ages = 0, 4 }}, {"one that has not begun has one", func(s *api.State) { s.Sessions[4].Age = 6 }}, {"and below 0", func(s *api.State) { s.Sessions[4].Age = -1 }},
		{"all above Ages", func(s *api.State) {
			for n := range s.Sessions {
				if s.Sessions[n].Age > 0 {
					s.Sessions[n].Age++
				}
			}
		}},
	})
	rightTurns(t, rich, []turn{
		{"others", func(s *api.State) { s.Sessions[1].Age, s.Sessions[5].Age = s.Sessions[5].Age, s.Sessions[1].Age }}, {"begun without an op", func(s *api.State) { s.Sessions[4].Age, s.Ages = 6, 6 }},
	})
}

func TestPendOfStates(t *testing.T) {
	w := api.Write{Table: 1, Key: "k", Value: "v"}
	with := func(n int) func(s *api.State) {
		return func(s *api.State) { s.Sessions[n].Pend.List = append(s.Sessions[n].Pend.List, w) }
	}
	marked := func(n int) func(s *api.State) { return func(s *api.State) { s.Sessions[n].Pend.Marks = []int{0} } }
	wrongTurns(t, rich, []turn{
		{"a write's table", func(s *api.State) { s.Sessions[1].Pend.List[0].Table = 2 }}, {"a table below 0", func(s *api.State) { s.Sessions[1].Pend.List[0].Table = -1 }}, {"a write's key", func(s *api.State) { s.Sessions[1].Pend.List[0].Key = "" }},
		{"a write's value", func(s *api.State) { s.Sessions[1].Pend.List[0].Value = long(21) }}, {"gone with a value", func(s *api.State) { s.Sessions[1].Pend.List[0].Gone = true }}, {"a mark", func(s *api.State) { s.Sessions[1].Pend.Marks = []int{2} }},
		{"many marks", func(s *api.State) { s.Sessions[1].Pend.Marks = make([]int, api.MaxMarks+1) }}, {"many writes", func(s *api.State) { s.Sessions[1].Pend.List = slices.Repeat([]api.Write{w}, api.MaxOps+1) }},
		{"of one that has not begun", with(4)}, {"marks of one that has not begun", marked(4)}, {"of one that is done", with(3)}, {"marks of one that is done", marked(3)},
	})
	wrongTurns(t, late, []turn{{"of one that is undone", with(3)}, {"marks of one that is undone", marked(3)}, {"of one that is done", with(0)}, {"marks of one that is done", marked(0)}, {"of one that reads alone and is done", with(2)}})
	rightTurns(t, rich, []turn{
		{"marks of one that waits", marked(0)}, {"of one that reads alone", with(2)}, {"marks of one that reads alone", marked(2)}, {"more of one that is ready", with(1)}, {"more of one that is blocked", with(5)},
		{"as many as may be", func(s *api.State) { s.Sessions[1].Pend.List = slices.Repeat([]api.Write{w}, api.MaxOps) }},
		{"as many marks", func(s *api.State) { s.Sessions[1].Pend.Marks = make([]int, api.MaxMarks) }},
	})
}

func TestCommitsOfStates(t *testing.T) {
	wrongTurns(t, rich, []turn{
		{"of one that is ready", func(s *api.State) { s.Sessions[1].Commit = 1 }}, {"of one that is blocked", func(s *api.State) { s.Sessions[5].Commit = 1 }}, {"of one that has not begun", func(s *api.State) { s.Sessions[4].Commit = 1 }},
		{"of one that reads alone", func(s *api.State) { s.Sessions[2].Commit = 1 }}, {"above Clock", func(s *api.State) { s.Sessions[3].Commit = 2 }}, {"below 0", func(s *api.State) { s.Sessions[3].Commit = -1 }}, {"far above Clock", func(s *api.State) { s.Sessions[3].Commit = math.MaxInt }},
		{"none of one that waits", func(s *api.State) { s.Sessions[0].Commit = 0 }}, {"Clock's of one that waits", func(s *api.State) { s.Sessions[0].Commit = 1 }}, {"one that comes later", func(s *api.State) { s.Sessions[0].Commit = 3 }},
	})
	wrongTurns(t, late, []turn{
		{"of one that is undone", func(s *api.State) { s.Sessions[3].Commit = 1 }},
		{"alike", func(s *api.State) { s.Programs[2].Only, s.Sessions[2].Commit = false, 2 }},
		{"above Clock", func(s *api.State) { s.Sessions[0].Commit = 3 }},
	})
	rightTurns(t, rich, []turn{{"one of one that is done", func(s *api.State) { s.Sessions[3].Commit = 1 }}})
	rightTurns(t, late, []turn{
		{"none of one that is done", func(s *api.State) { s.Sessions[0].Commit = 0 }},
		{"unlike", func(s *api.State) { s.Programs[2].Only, s.Sessions[2].Commit = false, 1 }},
		{"none of both", func(s *api.State) { s.Programs[2].Only, s.Sessions[0].Commit = false, 0 }},
	})
}

func TestQueuesOfStates(t *testing.T) {
	for _, l := range [][]int{nil, {1}, {2}, {3}, {4}, {5}, {6}, {-1}, {0, 0}, {0, 1}, {0, 5}, {1, 0}, {math.MaxInt}, {math.MinInt}} {
		wrongTurns(t, rich, []turn{{text("Queue ", l), func(s *api.State) { s.Queue = l }}})
	}
	for _, l := range [][]int{nil, {4}, {5}, {5, 4}, {4, 4}, {5, 5}, {4, 5, 4}, {4, 5, 0}, {4, 6}, {-1, 5}, {0, 5}} {
		wrongTurns(t, late, []turn{{text("Queue ", l), func(s *api.State) { s.Queue = l }}})
	}
	wrongTurns(t, late, []turn{
		{"numbers turned", func(s *api.State) { s.Sessions[4].Commit, s.Sessions[5].Commit = 4, 3 }}, {"numbers alike", func(s *api.State) { s.Sessions[5].Commit = 3 }}, {"one later", func(s *api.State) { s.Sessions[4].Commit, s.Sessions[5].Commit = 4, 5 }},
		{"one waits that is not there", func(s *api.State) { s.Queue, s.Log = s.Queue[:1], s.Log[:3] }},
	})
	rightTurns(t, late, []turn{
		{"all turned", func(s *api.State) {
			s.Sessions[4].Commit, s.Sessions[5].Commit = 4, 3
			s.Queue = []int{5, 4}
			s.Log[2].Writes, s.Log[3].Writes = s.Log[3].Writes, s.Log[2].Writes
		}},
		{"more than a group", func(s *api.State) { s.Config.Group = 1 }},
		{"one waits with nothing written", func(s *api.State) { s.Sessions[5].Pend.List, s.Log[3].Writes = nil, nil }},
	})
}

func TestLogsOfStates(t *testing.T) {
	w := api.Write{Table: 1, Key: "k", Value: "v"}
	wrongTurns(t, rich, []turn{
		{"a record less", func(s *api.State) { s.Log = s.Log[:1] }}, {"a record more", func(s *api.State) { s.Log = append(s.Log, api.Record{Commit: 3}) }}, {"no log", func(s *api.State) { s.Log = nil }}, {"a number", func(s *api.State) { s.Log[1].Commit = 3 }},
		{"the first number", func(s *api.State) { s.Log[0].Commit = 2 }}, {"number 0", func(s *api.State) { s.Log[0].Commit = 0 }}, {"turned", func(s *api.State) { slices.Reverse(s.Log) }}, {"a value of one that waits", func(s *api.State) { s.Log[1].Writes[0].Value = "q" }},
		{"a write more of one that waits", func(s *api.State) { s.Log[1].Writes = append(s.Log[1].Writes, w) }}, {"no write of one that waits", func(s *api.State) { s.Log[1].Writes = nil }}, {"what is pending of one that waits", func(s *api.State) { s.Sessions[0].Pend.List[0].Key = "q" }},
		{"a write's key", func(s *api.State) { s.Log[0].Writes[0].Key = "" }}, {"a write's table", func(s *api.State) { s.Log[0].Writes[3].Table = api.MaxTables }}, {"a write's value", func(s *api.State) { s.Log[0].Writes[3].Value = long(21) }},
		{"gone with a value", func(s *api.State) { s.Log[0].Writes[0].Gone = true }}, {"a table below 0", func(s *api.State) { s.Log[0].Writes[0].Table = -1 }}, {"many writes", func(s *api.State) { s.Log[0].Writes = slices.Repeat([]api.Write{w}, api.MaxRooms+1) }},
		{"Clock ahead", func(s *api.State) { s.Clock = 2 }}, {"Clock 0", func(s *api.State) { s.Clock = 0 }}, {"Clock below 0", func(s *api.State) { s.Clock = -1 }}, {"Clock far ahead", func(s *api.State) { s.Clock = math.MaxInt }}, {"Clock far below", func(s *api.State) { s.Clock = math.MinInt }},
		{"the last of many writes", func(s *api.State) {
			s.Log[0].Writes = append(slices.Repeat([]api.Write{w}, api.MaxOps+1), api.Write{Table: 1})
		}},
	})
	rightTurns(t, rich, []turn{
		{"writes in any order", func(s *api.State) { slices.Reverse(s.Log[0].Writes) }}, {"no writes", func(s *api.State) { s.Log[0].Writes = nil }}, {"as many as may be", func(s *api.State) { s.Log[0].Writes = slices.Repeat([]api.Write{w}, api.MaxRooms) }},
		{"a table beyond Config", func(s *api.State) { s.Log[0].Writes[0].Table = 2 }}, {"gone", func(s *api.State) { s.Log[0].Writes[0] = api.Write{Key: "a", Gone: true} }},
	})
	wrongTurns(t, late, []turn{
		{"writes of one that waits turned", func(s *api.State) { slices.Reverse(s.Log[2].Writes) }},
		{"all its writes", func(s *api.State) { s.Log[2].Writes = slices.Clone(s.Sessions[4].Pend.List) }},
		{"records turned", func(s *api.State) {
			s.Log[2].Writes, s.Log[3].Writes = s.Log[3].Writes, s.Log[2].Writes
		}},
	})
	// without programs no session tells of Clock
	for _, clock := range []int{-1, 1, math.MinInt, math.MaxInt} {
		s := made(t, wide(api.PolicyDie), bare())
		s.Clock = clock
		wrong(t, "Clock "+strconv.Itoa(clock), s)
	}
}

func TestVersionsOfStates(t *testing.T) {
	// 4 rows, and a write of each of three
	for versions, may := range map[int]bool{1: false, 6: false, 7: true, 8: true, api.MaxRooms: true} {
		set := []turn{{text("Versions ", versions), func(s *api.State) { s.Config.Versions = versions }}}
		if may {
			rightTurns(t, rich, set)
		} else {
			wrongTurns(t, rich, set)
		}
	}
	// 5 versions of 4 keys, 4 writes of two
	for versions, may := range map[int]bool{8: false, 9: true} {
		set := []turn{{text("Versions ", versions), func(s *api.State) { s.Config.Versions = versions }}}
		if may {
			rightTurns(t, late, set)
		} else {
			wrongTurns(t, late, set)
		}
	}
}
