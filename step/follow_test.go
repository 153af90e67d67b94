package step_test

import (
	"cmp"
	"slices"
	"strconv"
	"testing"

	"quorum/alone"
	"quorum/api"
	"quorum/check"
	"quorum/key"
	"quorum/step"
)

// P15.4: T1, T3 to T5 of the document.

func ended(x api.Session) bool { return x.Status == api.IsDone || x.Status == api.IsUndone }

// why is why a session was taken back, or WhyNone.
func why(x api.Session) int {
	if n := len(x.Answers); n > 0 && x.Answers[n-1].Err == int(api.ErrAbort) {
		return x.Answers[n-1].N
	}
	return api.WhyNone
}

// place is what stands behind which commit, those that wrote ahead of the others.
func place(s api.State, n int) [3]int {
	x := s.Sessions[n]
	switch {
	case x.Commit > 0:
		return [3]int{x.Commit, 0, x.Age}
	case s.Programs[n].Only:
		return [3]int{x.Snap, 1, x.Age}
	}
	return [3]int{x.Answers[len(x.Answers)-1].N, 1, x.Age}
}

// inOrder are those that are done, one by one as if.
func inOrder(s api.State) []int {
	var l []int
	for n, x := range s.Sessions {
		if x.Status == api.IsDone {
			l = append(l, n)
		}
	}
	slices.SortFunc(l, func(a, b int) int {
		x, y := place(s, a), place(s, b)
		return cmp.Or(x[0]-y[0], x[1]-y[1], x[2]-y[2])
	})
	return l
}

// mapNow is what is installed.
func mapNow(s api.State) [][]api.Row {
	w := worldOf(s)
	m := make([][]api.Row, len(s.Tables))
	for t := range m {
		m[t] = rowsIn(w.seen(t, s.Clock, nil), api.Op{Keys: key.All(), N: api.MaxNum})
	}
	return m
}

// oneByOne is T1 of a state that came of map m.
func oneByOne(t *testing.T, s api.State, m [][]api.Row) {
	t.Helper()
	for _, n := range inOrder(s) {
		told := slices.Clone(s.Sessions[n].Answers)
		told[len(told)-1].N = 0
		a, x, done, e := alone.Run(m, s.Programs[n])
		if e != api.OK || !done || text(a) != text(told) {
			t.Fatalf("%s: %d alone: %v, %v, %v, not %v", text(s), n, e, done, a, told)
		}
		m = x
	}
	if text(m) != text(mapNow(s)) || text(m) != text(mapAt(s.Log, len(s.Tables), s.Clock)) {
		t.Fatalf("%s: %v, not %v", text(s), mapNow(s), m)
	}
}

// readAlone is T3 of a state.
func readAlone(t *testing.T, s api.State) {
	t.Helper()
	for n, x := range s.Sessions {
		if !s.Programs[n].Only || x.Age == 0 {
			continue
		}
		m, p := mapAt(s.Log, len(s.Tables), x.Snap), api.Pend{}
		for at, told := range x.Answers {
			o := rollback()
			if at < len(s.Programs[n].Ops) {
				o = s.Programs[n].Ops[at]
			}
			next, a, _ := alone.Do(m, p, o, true)
			if p = next; text(a) != text(told) {
				t.Fatalf("%s: %d, %d: %v, not %v", text(s), n, at, told, a)
			}
		}
		if x.Status == api.IsBlocked || x.Status == api.IsWaiting || why(x) != api.WhyNone || slices.ContainsFunc(s.Locks, func(l api.Lock) bool { return l.Owner == n }) {
			t.Fatalf("%s: %d", text(s), n)
		}
	}
}

// oldest is the one that has not ended, or -1.
func oldest(s api.State) int {
	who := -1
	for n, x := range s.Sessions {
		if x.Age > 0 && !ended(x) && (who < 0 || x.Age < s.Sessions[who].Age) {
			who = n
		}
	}
	return who
}

// oldestStays is of T5, of a pick from s to x.
func oldestStays(t *testing.T, s, x api.State) {
	t.Helper()
	if n := oldest(s); n >= 0 {
		if y := why(x.Sessions[n]); y == api.WhyCircle || y == api.WhyDie {
			t.Fatalf("%s: the oldest, %d, is taken back: %s", text(s), n, text(x))
		}
	}
	for n, y := range x.Sessions {
		z := why(y)
		if z == api.WhyCircle && s.Config.Policy != api.PolicyCircle || z == api.WhyDie && s.Config.Policy != api.PolicyDie || z < api.WhyNone || z > api.WhyRoom {
			t.Fatalf("%s: %d: %d", text(x), n, z)
		}
	}
}

func holdAll(t *testing.T, s, x api.State, m [][]api.Row) {
	t.Helper()
	oneByOne(t, x, m)
	readAlone(t, x)
	oldestStays(t, s, x)
}

// reached holds all states that come of programs, whoever is picked, up to so
// many of them.
func reached(t *testing.T, c api.Config, most int, l ...api.Program) int {
	t.Helper()
	s := made(t, c, l...)
	all, seen := []api.State{s}, map[string]int{text(s): 0}
	for at := 0; at < len(all) && at < most; at++ {
		for n := range len(l) + 1 {
			x := picked(t, all[at], n)
			if _, is := seen[text(x)]; is {
				continue
			}
			holdAll(t, all[at], x, two())
			seen[text(x)] = len(all)
			all = append(all, x)
		}
	}
	return len(all)
}

// families are programs that get in each other's way.
func families() [][]api.Program {
	return [][]api.Program{
		list(prog(hold(0, "a"), hold(0, "b"), commit()), prog(hold(0, "b"), hold(0, "a"), commit())),
		list(prog(get(0, "a"), put(0, "b", "0"), commit()), prog(get(0, "b"), put(0, "a", "1"), commit())),
		list(prog(scan(0, to("a", "c"), 2), insert(0, "d", "0"), commit()), prog(scan(0, top("c"), 2), insert(0, "ab", "1"), cut(0, "c"), commit())),
		list(prog(whole(0, api.ModeR), put(0, "a", "0"), commit()), prog(whole(0, api.ModeW), cut(0, "a"), put(0, "b", "1"), commit())),
		list(prog(save(), put(0, "a", "0"), back(0), get(0, "a"), commit()), prog(cut(0, "a"), save(), insert(0, "a", "1"), release(0), commit())),
		list(prog(put(0, "a", "0"), put(0, "b", "0"), commit()), reads(get(0, "a"), put(0, "a", ""), scan(0, top(""), 9), commit()), prog(cut(0, "b"), rollback())),
		list(prog(get(0, "a"), put(0, "a", "0"), commit()), prog(get(0, "a"), put(0, "a", "1"), commit()), reads(get(0, "a"), get(0, "a"), commit())),
		list(prog(put(0, "a", "0"), commit()), prog(get(0, "a"), put(0, "b", "1"), commit()), prog(get(0, "b"), commit())),
		ring(),
		list(prog(hold(0, "a"), get(0, "b"), put(0, "a", "q"), commit()), prog(get(0, "a"), put(0, "b", "1"), commit()), prog(get(0, "a"), put(0, "c", "2"), commit())),
	}
}

func TestAllStatesOfSome(t *testing.T) {
	for i, l := range families() {
		for _, policy := range policies() {
			for _, group := range []int{1, 2, api.MaxGroup} {
				if n := reached(t, grouped(policy, group), 100, l...); n < 20 {
					t.Errorf("%d: %d", i, n)
				}
			}
			tight := api.Config{Tables: 2, Locks: 3, Versions: 5, Group: 2, Policy: policy}
			reached(t, tight, 100, l...)
		}
	}
}

// dice are numbers one behind the other: always the same.
type dice uint64

func (d *dice) roll(n int) int {
	*d = *d*6364136223846793005 + 1442695040888963407
	return int(uint64(*d) >> 33 % uint64(n))
}

func (d *dice) op() api.Op {
	keys := []string{"a", "b", "c", "d", "bb"}
	t, k, v := d.roll(4)/3, keys[d.roll(len(keys))], strconv.Itoa(d.roll(100))
	ranges := []api.Range{key.All(), to("a", "c"), to("b", "bc"), top("c"), to("b", "b"), to("", "b"), to("bb", "d")}
	switch d.roll(16) {
	case 0, 1, 2:
		return get(t, k)
	case 3:
		return hold(t, k)
	case 4, 5:
		return insert(t, k, v)
	case 6, 7, 8:
		return put(t, k, v)
	case 9:
		return cut(t, k)
	case 10:
		return scan(t, ranges[d.roll(len(ranges))], d.roll(4))
	case 11:
		return down(t, ranges[d.roll(len(ranges))], d.roll(4))
	case 12:
		return whole(t, 1+d.roll(2))
	case 13:
		return save()
	case 14:
		return back(d.roll(2))
	}
	return release(d.roll(2))
}

func (d *dice) program(most int) api.Program {
	g := api.Program{Only: d.roll(5) == 0}
	for range d.roll(most) {
		g.Ops = append(g.Ops, d.op())
	}
	switch d.roll(8) {
	case 0:
		g.Ops = append(g.Ops, rollback(), commit())
	case 1:
	default:
		g.Ops = append(g.Ops, commit())
	}
	return g
}

func (d *dice) programs() []api.Program {
	l := make([]api.Program, 1+d.roll(api.MaxProgs))
	for n := range l {
		l[n] = d.program(6)
	}
	return l
}

func (d *dice) config() api.Config {
	locks, versions := []int{100, 100, 6, 3}, []int{60, 60, 8, 5}
	return api.Config{Tables: 2, Locks: locks[d.roll(4)], Versions: versions[d.roll(4)], Group: 1 + d.roll(api.MaxGroup), Policy: 1 + d.roll(2)}
}

func TestAnyPicksOfAnyPrograms(t *testing.T) {
	d := dice(15)
	var reasons [5]int
	for range 400 {
		c, l := d.config(), d.programs()
		s := made(t, c, l...)
		for range 14 * len(l) {
			n := d.roll(len(l))
			if d.roll(12) == 0 {
				n = len(l)
			}
			x := picked(t, s, n)
			oldestStays(t, s, x)
			readAlone(t, x)
			s = x
		}
		oneByOne(t, s, two())
		oneByOne(t, picks(t, s, len(l)), two())
		for _, x := range s.Sessions {
			reasons[why(x)]++
		}
	}
	for reason, n := range reasons {
		if n < 5 {
			t.Errorf("why %d: %d", reason, n)
		}
	}
}

// T4: round by round each has ended within Bound.
func roundByRound(t *testing.T, c api.Config, l []api.Program) {
	t.Helper()
	bound, e := check.Bound(c, l...)
	if e != api.OK {
		t.Fatalf("%v: %v", l, e)
	}
	s, n := made(t, c, l...), 0
	for slices.ContainsFunc(s.Sessions, func(x api.Session) bool { return !ended(x) }) {
		for at := range len(l) + 1 {
			if n++; n > bound {
				t.Fatalf("%v: within %d picks: %s", l, bound, text(s))
			}
			x, e := step.Pick(s, at)
			if e != api.OK {
				t.Fatalf("%s, %d: %v", text(s), at, e)
			}
			oldestStays(t, s, x)
			s = x
		}
	}
	oneByOne(t, s, two())
}

func TestEachEndsWithinBound(t *testing.T) {
	for _, l := range families() {
		for _, policy := range policies() {
			for group := 1; group <= api.MaxGroup; group++ {
				roundByRound(t, grouped(policy, group), l)
				turned := slices.Clone(l)
				slices.Reverse(turned)
				roundByRound(t, grouped(policy, group), turned)
			}
		}
	}
	d := dice(4)
	for range 800 {
		roundByRound(t, d.config(), d.programs())
	}
}

// T5: with as many locks and versions as are told nobody is taken back for one.
func TestAsManyAsTold(t *testing.T) {
	d := dice(5)
	for range 500 {
		l := d.programs()
		c := wide(1 + d.roll(2))
		locks, _ := check.Locks(c, l...)
		rooms, e := check.Rooms(c, l...)
		if e != api.OK || rooms+4 > api.MaxRooms {
			t.Fatalf("%v: %d, %v", l, rooms, e)
		}
		c.Locks, c.Versions, c.Group = max(1, locks), rooms+4, 1+d.roll(api.MaxGroup)
		s := made(t, c, l...)
		for range 12 * len(l) {
			x, e := step.Pick(s, d.roll(len(l)+1))
			if e != api.OK {
				t.Fatalf("%s: %v", text(s), e)
			}
			s = x
		}
		for n, x := range s.Sessions {
			if y := why(x); y == api.WhyLocks || y == api.WhyRoom {
				t.Fatalf("%d: %s", n, text(s))
			}
		}
	}
	// each lock and each version that is told may be needed
	g := list(prog(whole(0, api.ModeW), put(0, "k", ""), commit()), prog(get(1, "x"), scan(1, to("a", "b"), 1), hold(1, "x\x00")))
	c := wide(api.PolicyDie)
	c.Locks, c.Versions = 5, 5
	want(t, picks(t, made(t, c, g...), 0, 0, 1, 1, 1, 0), "w3(0  2) r3(3  0) 1[0] 5")
	c.Locks = 4
	want(t, picks(t, made(t, c, g...), 0, 0, 1, 1, 1, 0), "u2(9  3) r3(3  0) 1[] 3")
	c.Locks, c.Versions = 5, 4
	want(t, picks(t, made(t, c, g...), 0, 0), "u1(9  4) r0 1[] 0")
}

// T5: picked one behind the other, each to its end, nobody is blocked or taken
// back.
func TestOneBehindTheOther(t *testing.T) {
	d := dice(6)
	for range 300 {
		c, l := wide(1+d.roll(2)), d.programs()
		s := made(t, c, l...)
		for n := range l {
			for range len(l[n].Ops) + 1 {
				if s = picked(t, s, n); s.Sessions[n].Status == api.IsBlocked || why(s.Sessions[n]) != api.WhyNone {
					t.Fatalf("%d: %s", n, text(s))
				}
			}
			if s = picked(t, s, len(l)); !ended(s.Sessions[n]) || len(s.Locks) != 0 {
				t.Fatalf("%d: %s", n, text(s))
			}
		}
		oneByOne(t, s, two())
		// as they were picked, so they count, but for those that wrote nothing
		told, m, e := alone.Many(two(), l...)
		if e != api.OK || text(m) != text(mapNow(s)) {
			t.Fatalf("%v: %v, not %v", l, mapNow(s), m)
		}
		for n, x := range s.Sessions {
			x.Answers = slices.Clone(x.Answers[:len(told[n])])
			if x.Status == api.IsDone {
				x.Answers[len(x.Answers)-1].N = 0
			}
			if text(x.Answers) != text(told[n]) {
				t.Fatalf("%d: %s, not %s", n, text(x.Answers), text(told[n]))
			}
		}
	}
}
