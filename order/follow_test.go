package order_test

import (
	"slices"
	"strconv"
	"testing"

	"quorum/alone"
	"quorum/api"
	"quorum/check"
	"quorum/key"
	"quorum/order"
	"quorum/step"
)

// P16.3: T1, and with it T3 to T5 of the document.

func ended(x api.Session) bool { return x.Status == api.IsDone || x.Status == api.IsUndone }

// why is why a session was taken back, or WhyNone.
func why(x api.Session) int {
	if n := len(x.Answers); n > 0 && x.Answers[n-1].Err == int(api.ErrAbort) {
		return x.Answers[n-1].N
	}
	return api.WhyNone
}

// oldest is the one that has not ended, or -1.
func oldest(s api.State) int {
	who := -1
	for n, x := range s.Sessions {
		if x.Age > 0 && !ended(x) && (who < 0 || x.Age < s.Sessions[who].Age) {
			who = n
		}
	}
	return who
}

// oldestStays is of T5, of a pick from s to x.
func oldestStays(t *testing.T, s, x api.State) {
	t.Helper()
	if n := oldest(s); n >= 0 {
		if y := why(x.Sessions[n]); y == api.WhyCircle || y == api.WhyDie {
			t.Fatalf("%s: the oldest, %d, is taken back: %s", text(s), n, text(x))
		}
	}
	for n, y := range x.Sessions {
		z := why(y)
		if z == api.WhyCircle && s.Config.Policy != api.PolicyCircle || z == api.WhyDie && s.Config.Policy != api.PolicyDie || z < api.WhyNone || z > api.WhyRoom {
			t.Fatalf("%s: %d: %d", text(x), n, z)
		}
	}
}

// course is a state, the map that it came of, and of each that reads alone the map
// that was there as it began.
type course struct {
	s    api.State
	m    [][]api.Row
	seen [api.MaxProgs][][]api.Row
}

func begun(t *testing.T, c api.Config, m [][]api.Row, l ...api.Program) course {
	t.Helper()
	s := made(t, c, m, l...)
	if !held(t, s, m) {
		t.Fatalf("%s doesn't fit", text(s))
	}
	return course{s: s, m: m}
}

// picked holds T1 and what T3 and T5 say of a pick.
func (c course) picked(t *testing.T, n int) course {
	t.Helper()
	x := picked(t, c.m, c.s, n)
	oldestStays(t, c.s, x)
	if n < len(c.s.Sessions) && c.s.Programs[n].Only {
		if c.s.Sessions[n].Age == 0 {
			c.seen[n], _ = order.Map(c.s)
		}
		readsAlone(t, c.s, x, n, c.seen[n])
	}
	c.s = x
	return c
}

// readsAlone is T3 of a pick of one that reads alone, from s to x: what it is told
// is of the map that was there as it began.
func readsAlone(t *testing.T, s, x api.State, n int, m [][]api.Row) {
	t.Helper()
	was, is := s.Sessions[n], x.Sessions[n]
	if ended(was) {
		if text(was) != text(is) {
			t.Fatalf("%s: %d goes on: %s", text(s), n, text(x))
		}
		return
	}
	o := rollback()
	if was.At < len(s.Programs[n].Ops) {
		o = s.Programs[n].Ops[was.At]
	}
	_, a, e := alone.Do(m, was.Pend, o, true)
	if e != api.OK || len(is.Answers) != len(was.Answers)+1 || text(is.Answers[len(was.Answers)]) != text(a) {
		t.Fatalf("%s: %d is told %s, not %v", text(s), n, text(is.Answers), a)
	}
	if is.Status == api.IsBlocked || is.Status == api.IsWaiting || why(is) != api.WhyNone || slices.ContainsFunc(x.Locks, func(l api.Lock) bool { return l.Owner == n }) {
		t.Fatalf("%s: %d", text(x), n)
	}
}

// reached goes to all states that come of programs, whoever is picked, up to so
// many of them.
func reached(t *testing.T, c api.Config, most int, l ...api.Program) int {
	t.Helper()
	all := []course{begun(t, c, two(), l...)}
	seen := map[string]int{text(all[0].s): 0}
	for at := 0; at < len(all) && at < most; at++ {
		for n := range len(l) + 1 {
			x := all[at].picked(t, n)
			if _, is := seen[text(x.s)]; !is {
				seen[text(x.s)] = len(all)
				all = append(all, x)
			}
		}
	}
	return len(all)
}

// families are programs that get in each other's way.
func families() [][]api.Program {
	return [][]api.Program{
		list(prog(hold(0, "a"), hold(0, "b"), commit()), prog(hold(0, "b"), hold(0, "a"), commit())),
		list(prog(get(0, "a"), put(0, "b", "0"), commit()), prog(get(0, "b"), put(0, "a", "1"), commit())),
		list(prog(scan(0, to("a", "c"), 2), insert(0, "d", "0"), commit()), prog(down(0, top("c"), 2), insert(0, "ab", "1"), cut(0, "c"), commit())),
		list(prog(whole(0, api.ModeR), put(0, "a", "0"), commit()), prog(whole(0, api.ModeW), cut(0, "a"), put(0, "b", "1"), commit())),
		list(prog(save(), put(0, "a", "0"), back(0), get(0, "a"), commit()), prog(cut(0, "a"), save(), insert(0, "a", "1"), release(0), commit())),
		list(prog(put(0, "a", "0"), put(0, "b", "0"), commit()), reads(get(0, "a"), put(0, "a", ""), scan(0, top(""), 9), commit()), prog(cut(0, "b"), rollback())),
		list(prog(get(0, "a"), put(0, "a", "0"), commit()), prog(get(0, "a"), put(0, "a", "1"), commit()), reads(get(0, "a"), get(0, "a"), commit())),
		list(prog(put(0, "a", "0"), commit()), prog(get(0, "a"), put(0, "b", "1"), commit()), prog(get(0, "b"), commit())),
		list(prog(get(0, "a"), put(0, "b", "0"), commit()), prog(get(0, "b"), put(0, "c", "0"), commit()), prog(get(0, "c"), put(0, "a", "0"), commit())),
		list(prog(scan(0, top(""), 9), put(1, "x", "0"), commit()), prog(get(1, "x"), commit()), reads(get(1, "x"), get(0, "a"), commit()), prog(put(0, "a", "1"), commit())),
	}
}

func TestAllStatesOfSome(t *testing.T) {
	for i, l := range families() {
		for _, policy := range policies() {
			for _, group := range []int{1, 2, api.MaxGroup} {
				if n := reached(t, grouped(policy, group), 80, l...); n < 20 {
					t.Errorf("%d: %d", i, n)
				}
			}
			reached(t, api.Config{Tables: 2, Locks: 3, Versions: 5, Group: 2, Policy: policy}, 80, l...)
		}
	}
}

// dice are numbers one behind the other: always the same.
type dice uint64

func (d *dice) roll(n int) int {
	*d = *d*6364136223846793005 + 1442695040888963407
	return int(uint64(*d) >> 33 % uint64(n))
}

func (d *dice) op() api.Op {
	keys := []string{"a", "b", "c", "d", "bb"}
	t, k, v := d.roll(4)/3, keys[d.roll(len(keys))], strconv.Itoa(d.roll(100))
	ranges := []api.Range{key.All(), to("a", "c"), to("b", "bc"), top("c"), to("b", "b"), to("", "b"), to("bb", "d")}
	switch d.roll(16) {
	case 0, 1, 2:
		return get(t, k)
	case 3:
		return hold(t, k)
	case 4, 5:
		return insert(t, k, v)
	case 6, 7, 8:
		return put(t, k, v)
	case 9:
		return cut(t, k)
	case 10:
		return scan(t, ranges[d.roll(len(ranges))], d.roll(4))
	case 11:
		return down(t, ranges[d.roll(len(ranges))], d.roll(4))
	case 12:
		return whole(t, 1+d.roll(2))
	case 13:
		return save()
	case 14:
		return back(d.roll(2))
	}
	return release(d.roll(2))
}

func (d *dice) program(most int) api.Program {
	g := api.Program{Only: d.roll(5) == 0}
	for range d.roll(most) {
		g.Ops = append(g.Ops, d.op())
	}
	switch d.roll(8) {
	case 0:
		g.Ops = append(g.Ops, rollback(), commit())
	case 1:
	default:
		g.Ops = append(g.Ops, commit())
	}
	return g
}

func (d *dice) programs() []api.Program {
	l := make([]api.Program, 1+d.roll(api.MaxProgs))
	for n := range l {
		l[n] = d.program(6)
	}
	return l
}

func (d *dice) config() api.Config {
	locks, versions := []int{100, 100, 6, 3}, []int{60, 60, 8, 5}
	return api.Config{Tables: 2, Locks: locks[d.roll(4)], Versions: versions[d.roll(4)], Group: 1 + d.roll(api.MaxGroup), Policy: 1 + d.roll(2)}
}

func (d *dice) rows() [][]api.Row {
	if d.roll(4) == 0 {
		return bare()
	}
	return two()
}

// turn changes one thing of a state such that it may still be.
func (d *dice) turn(s *api.State) {
	n := d.roll(len(s.Sessions))
	x := &s.Sessions[n]
	switch d.roll(6) {
	case 0, 1:
		if len(x.Answers) > 0 {
			x.Answers = slices.Clone(x.Answers)
			a := &x.Answers[d.roll(len(x.Answers))]
			a.Err, a.Value, a.N = a.Err*d.roll(2), strconv.Itoa(d.roll(10)), d.roll(3)
		}
	case 2:
		x.Snap = d.roll(s.Clock + 1)
	case 3:
		x.Commit = x.Commit * d.roll(2)
	case 4:
		if l := s.Programs[n].Ops; len(l) > 0 && x.Status == api.IsDone && x.At > 1 {
			s.Programs[n].Ops = slices.Clone(l)
			s.Programs[n].Ops[d.roll(x.At-1)] = d.op()
		}
	case 5:
		if l := s.Tables[0].Rows; len(l) > 0 {
			s.Tables = slices.Clone(s.Tables)
			s.Tables[0].Rows = slices.Delete(slices.Clone(l), 0, 1)
		}
	}
}

// T1: whatever is picked. What is turned afterwards is held against the words.
func TestAnyPicksOfAnyPrograms(t *testing.T) {
	d := dice(16)
	var reasons [5]int
	var fits, done [2]int
	for range 400 {
		x := begun(t, d.config(), d.rows(), d.programs()...)
		if x.s.Config.Versions < 5 {
			t.Fatalf("%v", x.s.Config)
		}
		many := len(x.s.Programs)
		for range 12 * many {
			n := d.roll(many)
			if d.roll(12) == 0 {
				n = many
			}
			x = x.picked(t, n)
		}
		x = x.picked(t, many)
		for n, y := range x.s.Sessions {
			reasons[why(y)]++
			if y.Status == api.IsDone && x.s.Programs[n].Only {
				done[0]++
			} else if y.Status == api.IsDone && y.Commit == 0 {
				done[1]++
			}
		}
		for range 5 {
			s := x.s
			s.Sessions, s.Programs = slices.Clone(s.Sessions), slices.Clone(s.Programs)
			d.turn(&s)
			if step.Check(s) != api.OK {
				continue
			}
			if held(t, s, x.m) {
				fits[0]++
			} else {
				fits[1]++
			}
		}
	}
	if slices.Min(reasons[:]) < 5 || slices.Min(fits[:]) < 100 || slices.Min(done[:]) < 50 {
		t.Errorf("%v, %v, %v", reasons, fits, done)
	}
}

// T4: round by round each has ended within Bound.
func roundByRound(t *testing.T, c api.Config, l []api.Program) {
	t.Helper()
	bound, e := check.Bound(c, l...)
	if e != api.OK {
		t.Fatalf("%v: %v", l, e)
	}
	s := made(t, c, two(), l...)
	for at := range bound {
		x, e := step.Pick(s, at%(len(l)+1))
		if e != api.OK {
			t.Fatalf("%s, %d: %v", text(s), at, e)
		}
		oldestStays(t, s, x)
		s = x
		if n, _ := order.Open(s); n == 0 && at%(len(l)+1) == len(l) {
			break
		}
	}
	if n, e := order.Open(s); e != api.OK || n != 0 {
		t.Fatalf("%v: within %d picks: %s", l, bound, text(s))
	}
	if !held(t, s, two()) {
		t.Fatalf("%v: %s", l, text(s))
	}
}

func TestEachEndsWithinBound(t *testing.T) {
	roundByRound(t, wide(api.PolicyDie), nil)
	for _, l := range families() {
		for _, policy := range policies() {
			for group := 1; group <= api.MaxGroup; group++ {
				roundByRound(t, grouped(policy, group), l)
				turned := slices.Clone(l)
				slices.Reverse(turned)
				roundByRound(t, grouped(policy, group), turned)
			}
		}
	}
	d := dice(4)
	for range 500 {
		roundByRound(t, d.config(), d.programs())
	}
}

// T5: with as many locks and versions as are told nobody is taken back for one.
func TestAsManyAsTold(t *testing.T) {
	d := dice(5)
	for range 200 {
		l := d.programs()
		c := wide(1 + d.roll(2))
		locks, _ := check.Locks(c, l...)
		rooms, e := check.Rooms(c, l...)
		if e != api.OK || rooms+4 > api.MaxRooms {
			t.Fatalf("%v: %d, %v", l, rooms, e)
		}
		c.Locks, c.Versions, c.Group = max(1, locks), rooms+4, 1+d.roll(api.MaxGroup)
		x := begun(t, c, two(), l...)
		for range 12 * len(l) {
			x = x.picked(t, d.roll(len(l)+1))
		}
		for n, y := range x.s.Sessions {
			if z := why(y); z == api.WhyLocks || z == api.WhyRoom {
				t.Fatalf("%d: %s", n, text(x.s))
			}
		}
	}
}

// T5: picked one behind the other, each to its end, nobody is blocked or taken
// back; so they count, but for those that wrote nothing.
func TestOneBehindTheOther(t *testing.T) {
	d := dice(6)
	for range 200 {
		l := d.programs()
		x := begun(t, wide(1+d.roll(2)), two(), l...)
		var done []int
		for n := range l {
			for range len(l[n].Ops) + 1 {
				if x = x.picked(t, n); x.s.Sessions[n].Status == api.IsBlocked || why(x.s.Sessions[n]) != api.WhyNone {
					t.Fatalf("%d: %s", n, text(x.s))
				}
			}
			x = x.picked(t, len(l))
			if open, _ := order.Open(x.s); open != len(l)-n-1 {
				t.Fatalf("%d: %d are open: %s", n, open, text(x.s))
			}
			if x.s.Sessions[n].Status == api.IsDone {
				done = append(done, n)
			}
		}
		if serial, e := order.Serial(x.s); e != api.OK || !slices.Equal(serial, done) {
			t.Fatalf("%v, not %v: %s", serial, done, text(x.s))
		}
	}
}
