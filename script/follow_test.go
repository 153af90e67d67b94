package script_test

import (
	"cmp"
	"slices"
	"testing"

	"quorum/alone"
	"quorum/api"
	"quorum/check"
	"quorum/order"
	"quorum/plan"
	"quorum/step"
)

// P21.2: T1 to T5 of the document, as a report tells them.

// tale is an epoch of a script: what was there ahead of it, what was told of it,
// what is there behind it.
type tale struct {
	c      api.Config
	ahead  [][]api.Row
	e      api.Epoch
	told   [][]api.Answer
	behind [][]api.Row
}

// tales are all of a script, but those that err.
func tales(t *testing.T, c api.Config, m [][]api.Row, l []api.Epoch) []tale {
	t.Helper()
	r := told(t, c, m, l)
	var all []tale
	for i, e := range l {
		if check.Programs(c, e.Programs) == api.OK {
			if len(r.Answers[i]) != len(e.Programs) {
				t.Fatalf("%v: %v", e, r.Answers[i])
			}
			all = append(all, tale{c, m, e, r.Answers[i], r.Maps[i]})
		}
		m = r.Maps[i]
	}
	return all
}

// whole is the same epoch, with the power on.
func (x tale) whole(t *testing.T) tale {
	t.Helper()
	return tales(t, x.c, x.ahead, epochs(off(x.e, -1)))[0]
}

// endOf is at which op a program ends.
func endOf(g api.Program) int {
	at := slices.IndexFunc(g.Ops, func(o api.Op) bool { return o.Kind == api.OpCommit || o.Kind == api.OpRollback })
	if at < 0 {
		return len(g.Ops)
	}
	return at
}

// isTold is whether a program's commit was told OK.
func (x tale) isTold(n int) bool {
	at, ops := len(x.told[n])-1, x.e.Programs[n].Ops
	return at >= 0 && at < len(ops) && ops[at].Kind == api.OpCommit && x.told[n][at].Err == int(api.OK)
}

// why is the reason for which a program was taken back.
func (x tale) why(n int) int {
	if a := x.told[n]; len(a) > 0 && a[len(a)-1].Err == int(api.ErrAbort) {
		return a[len(a)-1].N
	}
	return api.WhyNone
}

func (x tale) hasEnded(n int) bool {
	return len(x.told[n]) == endOf(x.e.Programs[n])+1 || x.why(n) != api.WhyNone
}

// wrote is whether anything was left to be written at a commit that was told.
func (x tale) wrote(n int) bool {
	writes, saved := 0, []int(nil)
	for at, o := range x.e.Programs[n].Ops[:endOf(x.e.Programs[n])] {
		switch {
		case x.e.Programs[n].Only || x.told[n][at].Err != int(api.OK):
		case o.Kind == api.OpPut || o.Kind == api.OpInsert || o.Kind == api.OpDelete:
			writes++
		case o.Kind == api.OpSave:
			saved = append(saved, writes)
		case o.Kind == api.OpReturn:
			writes, saved = saved[o.N], saved[:o.N+1]
		case o.Kind == api.OpRelease:
			saved = saved[:o.N]
		}
	}
	return writes > 0
}

// number is what a program's OpCommit was told.
func (x tale) number(n int) int { return x.told[n][len(x.told[n])-1].N }

// same is whether answers are the same, but for the number of an OpCommit.
func same(g api.Program, a, b []api.Answer) bool {
	a, b = slices.Clone(a), slices.Clone(b)
	if at := endOf(g); len(a) == at+1 && len(b) == at+1 && at < len(g.Ops) && g.Ops[at].Kind == api.OpCommit {
		a[at].N, b[at].N = 0, 0
	}
	return text(a) == text(b) && len(a) == len(b)
}

// walk are the states of an epoch behind each of its picks, and behind its end, as
// they are with the power on.
func (x tale) walk(t *testing.T) []api.State {
	t.Helper()
	s, e := step.New(x.c, x.e.Programs, x.ahead)
	if e != api.OK {
		t.Fatalf("%v", e)
	}
	l := []api.State{s}
	for _, n := range x.e.Picks {
		if next, e := step.Pick(s, n); e == api.OK {
			s = next
		}
		l = append(l, s)
	}
	s, _ = step.Flush(s)
	return append(l, s)
}

// firstOf is the commit that a map's rows are of.
func firstOf(m [][]api.Row) int { return min(1, len(contentOf(m))) }

// turn is where a program counts: behind how many commits, itself counted in, if
// it is one. A commit is ahead of what stands behind it; these go by their ages.
type turn struct {
	n, commits, age int
}

func byTurns(a, b turn) int {
	return cmp.Or(cmp.Compare(a.commits, b.commits), cmp.Compare(a.age, b.age))
}

// turns are those of all programs whose commit was told, in order.
func (x tale) turns(last api.State) []turn {
	var l []turn
	for n, g := range x.e.Programs {
		if !x.isTold(n) {
			continue
		}
		y := turn{n, x.number(n), last.Sessions[n].Age}
		if g.Only {
			y.commits = last.Sessions[n].Snap
		} else if x.wrote(n) {
			y.age = 0
		}
		y.commits -= firstOf(x.ahead)
		l = append(l, y)
	}
	slices.SortFunc(l, byTurns)
	return l
}

// asIf is T1, of an epoch in which the power stays on: the maps as the commits
// come, from that ahead of all on.
func (x tale) asIf(t *testing.T) [][][]api.Row {
	t.Helper()
	states := x.walk(t)
	last := states[len(states)-1]
	maps := [][][]api.Row{x.ahead}
	var l []api.Program
	var which []int
	for _, y := range x.turns(last) {
		g, m := x.e.Programs[y.n], maps[len(maps)-1]
		a, next, done, e := alone.Run(m, g)
		if e != api.OK || !done || !same(g, a, x.told[y.n]) {
			t.Fatalf("%v: %d tells %v alone, of %v", x.e, y.n, a, x.told)
		}
		if y.age == 0 {
			maps = append(maps, next)
		}
		if y.commits != len(maps)-1 {
			t.Fatalf("%v: %d at %d, not at %d", x.e, y.n, y.commits, len(maps)-1)
		}
		l, which = append(l, g), append(which, y.n)
	}
	_, m, e := alone.Many(x.ahead, l...)
	if e != api.OK || text(m) != text(x.behind) || text(maps[len(maps)-1]) != text(m) {
		t.Fatalf("%v: %v, not %v", x.e, x.behind, m)
	}
	serial, e := order.Serial(last)
	fits, f := order.Fits(last, x.ahead)
	if e != api.OK || f != api.OK || !fits || !slices.Equal(serial, which) {
		t.Fatalf("%v: %v, %v, %v, not %v", x.e, e, fits, serial, which)
	}
	return maps
}

// asSeen is T3, of an epoch in which the power stays on: a whole answer with each
// pick, of the map that was there as the reader began.
func (x tale) asSeen(t *testing.T) {
	t.Helper()
	states := x.walk(t)
	for n, g := range x.e.Programs {
		begin := slices.Index(x.e.Picks, n)
		if !g.Only || begin < 0 {
			continue
		}
		m, _ := order.Map(states[begin])
		want, _, _, _ := alone.Run(m, g)
		if len(want) == endOf(g) {
			want = append(want, api.Answer{})
		}
		picked := 0
		for _, p := range x.e.Picks {
			if p == n {
				picked++
			}
		}
		if want = want[:min(picked, len(want))]; text(x.told[n]) != text(want) {
			t.Fatalf("%v: %d: %v, not %v", x.e, n, x.told[n], want)
		}
		for at, a := range x.told[n] {
			if at < len(g.Ops) && plan.Writes(g.Ops[at]) != (a.Err == int(api.ErrOnly)) {
				t.Fatalf("%v: %d: %v", x.e, n, x.told[n])
			}
		}
	}
}

// reasons are those of T5, of an epoch in which the power stays on: the oldest
// that writes, and has not ended, is not taken back for others.
func (x tale) reasons(t *testing.T) {
	t.Helper()
	states := x.walk(t)
	for i, s := range states[1:] {
		was := states[i]
		oldest := -1
		for n, y := range s.Sessions {
			if y.Age != 0 && !x.e.Programs[n].Only && was.Sessions[n].Status < api.IsDone && (oldest < 0 || y.Age < s.Sessions[oldest].Age) {
				oldest = n
			}
		}
		for n, y := range s.Sessions {
			if len(y.Answers) == len(was.Sessions[n].Answers) || y.Answers[len(y.Answers)-1].Err != int(api.ErrAbort) {
				continue
			}
			if why := y.Answers[len(y.Answers)-1].N; why < api.WhyCircle || why > api.WhyRoom || why == api.WhyCircle && x.c.Policy != api.PolicyCircle || why == api.WhyDie && x.c.Policy != api.PolicyDie || why < api.WhyLocks && n == oldest {
				t.Fatalf("%v: %d is taken back for %d", x.e, n, why)
			}
		}
	}
	for n, a := range x.told {
		if text(a) != text(states[len(states)-1].Sessions[n].Answers) {
			t.Fatalf("%v: %d: %v", x.e, n, a)
		}
		if at := slices.IndexFunc(a, func(y api.Answer) bool { return y.Err == int(api.ErrAbort) }); at >= 0 && at != len(a)-1 {
			t.Fatalf("%v: %d: %v", x.e, n, a)
		}
	}
}

// holds is T1, T3 and T5, of an epoch in which the power stays on.
func (x tale) holds(t *testing.T) {
	t.Helper()
	x.asIf(t)
	x.asSeen(t)
	x.reasons(t)
}

func TestAsIfOneByOne(t *testing.T) {
	for _, l := range families() {
		for _, policy := range policies() {
			for group := 1; group <= api.MaxGroup; group++ {
				all := tales(t, wide(policy, group), two(), epochs(on(turns(len(l), 8), l...), on(turns(len(l)+1, 8), l...), on(inRow(l), l...), on(turns(len(l), 8), l...)))
				for _, x := range all {
					x.holds(t)
				}
			}
		}
	}
	d := dice(3)
	var seen [5]int
	for range 120 {
		l := d.script(1 + d.roll(8))
		for i := range l {
			l[i].Crash = -1 - d.roll(3)
		}
		for _, x := range tales(t, d.config(), d.rows(), l) {
			x.holds(t)
			for n := range x.told {
				seen[x.why(n)]++
			}
		}
	}
	if slices.Min(seen[:]) < 5 {
		t.Errorf("%v", seen)
	}
}

// upToSome is T2: behind an epoch in which the power went there is the map of the
// commits up to some number, of all that were told among them, and what was told
// is the begin of what is told with the power on. It is how many more there are.
func (x tale) upToSome(t *testing.T, whole tale, maps [][][]api.Row) int {
	t.Helper()
	least := 0
	for n, a := range x.told {
		if len(a) > len(whole.told[n]) || text(a) != text(whole.told[n][:len(a)]) {
			t.Fatalf("%v: %v, not of %v", x.e, x.told, whole.told)
		}
		if x.isTold(n) && x.wrote(n) {
			least++
		}
	}
	for at, m := range maps[least:] {
		if text(m) == text(x.behind) {
			return at
		}
	}
	t.Fatalf("%v: of %d commits that were told: %v is none of %v", x.e, least, x.behind, maps)
	return 0
}

// course is an epoch with the power on, and the maps as its commits come.
type course struct {
	whole tale
	maps  [][][]api.Row
}

// Each epoch of a script is cut at each step, also that which comes behind one that
// was cut; epochs without programs, cut or not, leave what is there.
func TestWhereverThePowerGoes(t *testing.T) {
	kept := [][]int{nil, {1}, {1, 0}, {0, 1}, {0, 0, 1}, {1, 1, 0}, {-3, 4, 7}}
	later, cuts := 0, 0
	cutEach := func(c api.Config, m [][]api.Row, l []api.Epoch) {
		t.Helper()
		courses := map[string]course{}
		for crash := range 26 {
			for _, keep := range kept {
				cut := slices.Clone(l)
				for i := range cut {
					cut[i] = off(cut[i], crash+[]int{0, 3, -1}[i%3], keep...)
				}
				cut = append(cut, on(nil), off(on([]int{0, 1}), crash, keep...), on(nil))
				all := tales(t, c, m, cut)
				for i, x := range all[:len(l)] {
					which := text(i, x.ahead)
					if courses[which].maps == nil {
						whole := x.whole(t)
						courses[which] = course{whole, whole.asIf(t)}
					}
					later += x.upToSome(t, courses[which].whole, courses[which].maps)
					cuts++
				}
				for _, x := range all[len(l):] {
					if text(x.behind) != text(all[len(l)-1].behind) {
						t.Fatalf("%v: %v, not %v", l, x.behind, all[len(l)-1].behind)
					}
				}
			}
		}
	}
	for i, l := range families() {
		cutEach(wide(policies()[i%2], 1+i%api.MaxGroup), two(), epochs(on(turns(len(l), 8), l...), on(turns(len(l)+1, 8), l...), on(inRow(l), l...)))
	}
	d := dice(4)
	for range 8 {
		cutEach(wide(of(&d, policies()...), 1+d.roll(api.MaxGroup)), d.rows(), epochs(d.epoch(), d.epoch(), d.epoch()))
	}
	if later < 100 || cuts < 5000 {
		t.Errorf("%d, %d", later, cuts)
	}
}

// One flush of several records of several sectors: whatever of them stays; and
// behind it the next one.
func TestWhateverStays(t *testing.T) {
	e := on(turns(4, 4), prog(put(0, "a", long(20)), commit()), prog(put(0, "b", long(15)), put(0, "n", ""), commit()), prog(cut(0, "c"), commit()), prog(put(1, "x", long(20)), put(1, "y", long(20)), commit()))
	whole := tales(t, wide(api.PolicyDie, 4), two(), epochs(e))[0]
	maps := whole.asIf(t)
	if len(maps) != 5 {
		t.Fatalf("%v", maps)
	}
	seen := map[string]int{}
	for crash := 5; crash < 20; crash++ {
		for part := range 1 << 9 {
			var keep []int
			for i := range 9 {
				keep = append(keep, part>>i&1)
			}
			all := tales(t, whole.c, two(), epochs(off(e, crash, keep...), on(nil)))
			all[0].upToSome(t, whole, maps)
			seen[text(all[0].behind)]++
			if text(all[1].behind) != text(all[0].behind) {
				t.Fatalf("%d, %v: %v", crash, keep, all[1].behind)
			}
		}
	}
	if len(seen) != 5 {
		t.Errorf("%v", seen)
	}
}

// Scripts of which any epochs err, or are cut, anywhere.
func TestManyEpochs(t *testing.T) {
	d := dice(5)
	cuts := 0
	for range 60 {
		for _, x := range tales(t, d.config(), d.rows(), d.script(12)) {
			if x.e.Crash < 0 {
				x.holds(t)
				continue
			}
			whole := x.whole(t)
			x.upToSome(t, whole, whole.asIf(t))
			cuts++
		}
	}
	if cuts < 100 {
		t.Errorf("%d", cuts)
	}
}

// T4: round by round, with a flush behind each, all have ended within Bound.
func TestEachEndsWithinBound(t *testing.T) {
	most := 0
	round := func(c api.Config, m [][]api.Row, l []api.Program) {
		t.Helper()
		bound, e := check.Bound(c, l...)
		if e != api.OK || bound > 2000 {
			t.Fatalf("%v, %d", e, bound)
		}
		most = max(most, bound)
		for _, x := range tales(t, c, m, epochs(look(), on(turns(len(l)+1, bound)[:bound], l...))) {
			x.holds(t)
			for n := range x.told {
				if !x.hasEnded(n) {
					t.Fatalf("%v: %d: %v", l, n, x.told)
				}
			}
		}
	}
	for _, l := range families() {
		for _, policy := range policies() {
			for group := 1; group <= api.MaxGroup; group++ {
				round(wide(policy, group), two(), l)
			}
		}
	}
	d := dice(6)
	for range 60 {
		round(d.config(), d.rows(), d.programs())
	}
	// as many programs as may be, as long as may be, in each other's way
	for range 8 {
		l := make([]api.Program, api.MaxProgs)
		for n := range l {
			for range api.MaxOps - 1 {
				l[n].Ops = append(l[n].Ops, of(&d, get, hold)(0, of(&d, "a", "b", "c", "d")), put(0, of(&d, "a", "b", "c", "d"), "n"))
			}
			l[n].Ops = append(l[n].Ops[:api.MaxOps-1], commit())
		}
		round(wide(of(&d, policies()...), 1+d.roll(api.MaxGroup)), two(), l)
	}
	if most != 1099 {
		t.Errorf("%d", most)
	}
}

// T5: with as many locks and versions as are told, and the map's rows, nobody is
// taken back for one; with fewer than are taken somebody is.
func TestAsManyAsTold(t *testing.T) {
	d := dice(7)
	for range 150 {
		l, m := d.programs(), d.rows()
		c := wide(of(&d, policies()...), 1+d.roll(api.MaxGroup))
		locks, _ := check.Locks(c, l...)
		rooms, e := check.Rooms(c, l...)
		if e != api.OK || rooms+len(contentOf(m)) > api.MaxRooms {
			t.Fatalf("%v: %d, %v", l, rooms, e)
		}
		c.Locks, c.Versions = max(1, locks), max(1, rooms+len(contentOf(m)))
		x := tales(t, c, m, epochs(on(d.picks(len(l)), l...)))[0]
		for n := range x.told {
			if why := x.why(n); why == api.WhyLocks || why == api.WhyRoom {
				t.Fatalf("%v: %d: %v", l, n, x.told)
			}
		}
	}
	for _, y := range []struct{ locks, versions, why int }{{2, 6, api.WhyNone}, {1, 6, api.WhyLocks}, {2, 5, api.WhyRoom}, {1, 5, api.WhyLocks}} {
		c := api.Config{Tables: 2, Locks: y.locks, Versions: y.versions, Group: 2, Policy: api.PolicyDie}
		x := tales(t, c, two(), epochs(on(turns(2, 2), prog(put(0, "n", "0"), commit()), prog(put(0, "m", "1"), commit()))))[0]
		if x.why(0) != api.WhyNone || x.why(1) != y.why || !x.hasEnded(0) || !x.hasEnded(1) {
			t.Errorf("%v: %v", c, x.told)
		}
	}
}

// T5: picked one behind the other, each to its end, nobody is blocked or taken
// back: it is as if each was alone.
func TestOneBehindTheOther(t *testing.T) {
	d := dice(8)
	for range 60 {
		var l []api.Epoch
		for range 1 + d.roll(8) {
			g := d.programs()
			l = append(l, on(inRow(g), g...))
		}
		for _, x := range tales(t, wide(of(&d, policies()...), 1+d.roll(api.MaxGroup)), d.rows(), l) {
			x.holds(t)
			all, m, e := alone.Many(x.ahead, x.e.Programs...)
			if e != api.OK || text(x.behind) != text(m) {
				t.Fatalf("%v: %v, not %v", x.e, x.behind, m)
			}
			for n, g := range x.e.Programs {
				if len(all[n]) == endOf(g) { // the end of the program is told, too
					all[n] = append(all[n], api.Answer{})
				}
				if !same(g, x.told[n], all[n]) {
					t.Fatalf("%v: %d: %v, not %v", x.e, n, x.told[n], all[n])
				}
			}
		}
	}
}

// A longer list begins as a shorter one does, and goes on as if it began with the
// map that is there then.
func TestPartsOfScripts(t *testing.T) {
	d := dice(9)
	for range 30 {
		c, m, l := d.config(), d.rows(), d.script(20)
		r := told(t, c, m, l)
		for n := range len(l) + 1 {
			x := told(t, c, m, l[:n])
			if text(x.Answers) != text(r.Answers[:n]) || text(x.Maps) != text(r.Maps[:n]) {
				t.Fatalf("%d of %v: %v, not %v", n, l, x, r)
			}
			if n == 0 {
				continue
			}
			y := told(t, c, r.Maps[n-1], l[n:])
			if text(y.Answers) != text(r.Answers[n:]) || text(y.Maps) != text(r.Maps[n:]) {
				t.Fatalf("from %d on of %v: %v, not %v", n, l, y, r)
			}
		}
	}
}
