package engine_test

import (
	"maps"
	"slices"
	"testing"

	"quorum/alone"
	"quorum/api"
	"quorum/check"
	"quorum/engine"
	"quorum/order"
	"quorum/pend"
	"quorum/step"
)

// P20.4: T1 to T5 of the document, as they are seen from outside.

// endOf is at which op a program ends, and whether by a commit.
func endOf(g api.Program) (at int, commits bool) {
	for at, o := range g.Ops {
		if o.Kind == api.OpCommit || o.Kind == api.OpRollback {
			return at, o.Kind == api.OpCommit
		}
	}
	return len(g.Ops), false
}

func why(a []api.Answer) int {
	if n := len(a); n > 0 && a[n-1].Err == int(api.ErrAbort) {
		return a[n-1].N
	}
	return api.WhyNone
}

func hasEnded(g api.Program, a []api.Answer) bool {
	at, _ := endOf(g)
	return len(a) == at+1 || why(a) != api.WhyNone
}

// isTold is whether a program's commit was told OK.
func isTold(g api.Program, a []api.Answer) bool {
	at, commits := endOf(g)
	return commits && len(a) == at+1 && a[at].Err == int(api.OK)
}

// wrote is whether anything was pending at a commit that was told.
func wrote(g api.Program, a []api.Answer) bool {
	var p api.Pend
	for at, o := range g.Ops[:len(a)-1] {
		switch {
		case g.Only || a[at].Err != int(api.OK):
		case o.Kind == api.OpPut || o.Kind == api.OpInsert || o.Kind == api.OpDelete:
			p, _ = pend.Put(p, api.Write{Key: "k"})
		case o.Kind == api.OpSave:
			p, _, _ = pend.Save(p)
		case o.Kind == api.OpReturn:
			p, _ = pend.Return(p, o.N)
		case o.Kind == api.OpRelease:
			p, _ = pend.Release(p, o.N)
		}
	}
	return len(p.List) > 0
}

// withoutNumber is without what OpCommit tells.
func withoutNumber(g api.Program, a []api.Answer) []api.Answer {
	a = slices.Clone(a)
	if at, commits := endOf(g); commits && len(a) == at+1 {
		a[at].N = 0
	}
	return a
}

// tellsSo is whether a program tells, alone on a map, what it told; and the map
// behind it.
func tellsSo(m [][]api.Row, g api.Program, a []api.Answer) (bool, [][]api.Row) {
	b, x, _, e := alone.Run(m, g)
	return e == api.OK && text(withoutNumber(g, b)) == text(withoutNumber(g, a)), x
}

// firstOf is the commit that a map's rows are of.
func firstOf(m [][]api.Row) int { return min(rowsOf(m), 1) }

// writersOf are those whose commit was told, and who wrote, by their numbers:
// these are the next ones, one behind the other.
func writersOf(t *testing.T, m [][]api.Row, l []api.Program, a [][]api.Answer) []int {
	t.Helper()
	by := map[int]int{}
	for n, g := range l {
		if !g.Only && isTold(g, a[n]) && wrote(g, a[n]) {
			by[a[n][len(a[n])-1].N] = n
		}
	}
	var writers []int
	for i, number := range slices.Sorted(maps.Keys(by)) {
		if number != firstOf(m)+1+i {
			t.Fatalf("%v, of %v", by, a)
		}
		writers = append(writers, by[number])
	}
	return writers
}

// asIf is T1: the maps that are there as the commits come, one by one. What the
// others told is of one of these maps.
func asIf(t *testing.T, m [][]api.Row, l []api.Program, a [][]api.Answer) [][][]api.Row {
	t.Helper()
	all := [][][]api.Row{m}
	for _, n := range writersOf(t, m, l, a) {
		is, x := tellsSo(all[len(all)-1], l[n], a[n])
		if !is {
			t.Fatalf("%v: %d tells something else: %v", l, n, a)
		}
		all = append(all, x)
	}
	for n, g := range l {
		if !isTold(g, a[n]) || !g.Only && wrote(g, a[n]) {
			continue
		}
		is := slices.ContainsFunc(all, func(m [][]api.Row) bool { is, _ := tellsSo(m, g, a[n]); return is })
		if !g.Only {
			is, _ = tellsSo(all[a[n][len(a[n])-1].N-firstOf(m)], g, a[n])
		}
		if !is {
			t.Fatalf("%v: %d tells something else: %v", l, n, a)
		}
	}
	return all
}

// asSeen is T3 of a Run: whoever reads alone sees the map that was there as it
// began, and goes on with each pick.
func asSeen(t *testing.T, c api.Config, m [][]api.Row, e api.Epoch, a [][]api.Answer) {
	t.Helper()
	s, _ := step.New(c, e.Programs, m)
	var asked [api.MaxProgs]int
	for _, n := range e.Picks {
		if n >= 0 && n < len(e.Programs) && e.Programs[n].Only {
			if asked[n]++; asked[n] == 1 {
				seen, _ := order.Map(s)
				b, _, _, _ := alone.Run(seen, e.Programs[n])
				is := a[n][:min(len(a[n]), len(b))]
				if text(is) != text(b[:len(is)]) || why(a[n]) != api.WhyNone {
					t.Fatalf("%v: %d: %v, not %v", e, n, a[n], b)
				}
			}
		}
		if x, f := step.Pick(s, n); f == api.OK {
			s = x
		}
	}
	for n, g := range e.Programs {
		if at, _ := endOf(g); g.Only && len(a[n]) != min(asked[n], at+1) {
			t.Fatalf("%v: %d was picked %d times: %v", e, n, asked[n], a[n])
		}
	}
}

// reasons is T5: whoever is taken back is told why; whoever began first of all is
// not taken back for others.
func reasons(t *testing.T, c api.Config, e api.Epoch, a [][]api.Answer) {
	t.Helper()
	first := slices.IndexFunc(e.Picks, func(n int) bool { return n >= 0 && n < len(e.Programs) && !e.Programs[n].Only })
	for n := range a {
		switch why(a[n]) {
		case api.WhyNone, api.WhyLocks, api.WhyRoom:
			continue
		case api.WhyCircle:
			if c.Policy == api.PolicyCircle && n != e.Picks[first] {
				continue
			}
		case api.WhyDie:
			if c.Policy == api.PolicyDie && n != e.Picks[first] {
				continue
			}
		}
		t.Fatalf("%v: %d: %v", e, n, a[n])
	}
}

// asOne holds T1, T3 and T5 of an epoch in which the power stays on.
func asOne(t *testing.T, c api.Config, g *engine.Engine, e api.Epoch) [][][]api.Row {
	t.Helper()
	m := g.Map()
	a := runs(t, g, e)
	all := asIf(t, m, e.Programs, a)
	if behind := g.Map(); text(behind) != text(all[len(all)-1]) {
		t.Fatalf("%v: %v, not %v", e, behind, all[len(all)-1])
	}
	asSeen(t, c, m, e, a)
	reasons(t, c, e, a)
	return all
}

func TestAsIfOneByOne(t *testing.T) {
	for _, l := range families() {
		for _, policy := range policies() {
			for group := 1; group <= api.MaxGroup; group++ {
				c := grouped(policy, group)
				g := made(t, c, two())
				asOne(t, c, g, on(turns(len(l), 8), l...))
				asOne(t, c, g, on(turns(len(l)+1, 8), l...))
				asOne(t, c, g, on(inRow(l), l...))
			}
		}
	}
	d := dice(1)
	var seen [5]int
	for range 300 {
		c := d.config()
		g := made(t, c, d.rows())
		for range 1 + d.roll(3) {
			e := d.epoch()
			asOne(t, c, g, e)
			for _, l := range runs(t, g, e) {
				seen[why(l)]++
			}
		}
	}
	if slices.Min(seen[:]) < 5 {
		t.Errorf("%v", seen)
	}
}

// sameAgain is of T2: restored once and again it is the same, and so is the tape.
func sameAgain(t *testing.T, g *engine.Engine) {
	t.Helper()
	m, x, n := text(g.Map()), g.Tape(), g.Picks()
	for range 3 {
		if e := g.Restore(); e != api.OK || text(g.Map()) != m || !sameTape(g.Tape(), x) || g.Picks() != n {
			t.Fatalf("restored: %v, %v, not %s", e, g.Map(), m)
		}
	}
	if len(x.Waits) != 0 {
		t.Fatalf("%d wait", len(x.Waits))
	}
}

// partOf is whether what was told till the power went is the begin of all of it.
func partOf(a, all [][]api.Answer) bool {
	return slices.EqualFunc(a, all, func(a, all []api.Answer) bool { return len(a) <= len(all) && text(a) == text(all[:len(a)]) })
}

// upToSome is T2 of an epoch that is cut: of the maps of an epoch that isn't, the
// one of all that were told, or a later one, is there.
func upToSome(t *testing.T, g *engine.Engine, e api.Epoch, maps [][][]api.Row, whole [][]api.Answer) int {
	t.Helper()
	m := g.Map()
	a := runs(t, g, e)
	told := len(writersOf(t, m, e.Programs, a))
	is := text(g.Map())
	for n := told; n < len(maps); n++ {
		if text(maps[n]) == is {
			if !partOf(a, whole) {
				t.Fatalf("%v: %v, not of %v", e, a, whole)
			}
			sameAgain(t, g)
			return n - told
		}
	}
	t.Fatalf("%v: %d were told: %s is none of %v", e, told, is, maps)
	return 0
}

// stepsOf is how many steps an epoch has on the tape.
func stepsOf(t *testing.T, c api.Config, m [][]api.Row, e api.Epoch) int {
	t.Helper()
	p := paired(t, c, m)
	e.Crash = -1
	p.run(t, e)
	return len(p.v.done)
}

// parts are all lists of n of 0 and 1.
func parts(n int) [][]int {
	l := [][]int{nil}
	for range n {
		var next [][]int
		for _, x := range l {
			next = append(next, append(slices.Clone(x), 0), append(slices.Clone(x), 1))
		}
		l = next
	}
	return l
}

// cutEach cuts an epoch at each step, with what waits there kept in each of these
// ways; a shorter epoch comes behind it, cut at each step, too.
func cutEach(t *testing.T, c api.Config, m [][]api.Row, e api.Epoch, kept [][]int, then []int) {
	t.Helper()
	whole := made(t, c, m)
	all := runs(t, whole, e)
	maps := asIf(t, m, e.Programs, all)
	many := stepsOf(t, c, m, e)
	later := on([]int{0, 0, 0}, prog(put(0, "later", "l"), cut(0, "a"), commit()))
	for crash := range many + 2 {
		for _, keep := range kept {
			e.Crash, e.Keep = crash, keep
			g := made(t, c, m)
			upToSome(t, g, e, maps, all)
			if crash > many && text(g.Map()) != text(whole.Map()) {
				t.Fatalf("%v", g.Map())
			}
			for _, at := range then {
				g := made(t, c, m)
				runs(t, g, e)
				was := g.Map()
				a, x, _, _ := alone.Run(was, later.Programs[0])
				a[2].N = firstOf(was) + 1
				if a[1].Err != int(api.OK) {
					continue
				}
				later.Crash, later.Keep = at, keep
				upToSome(t, g, later, [][][]api.Row{was, x}, [][]api.Answer{a})
				later.Crash = -1
				runs(t, g, later)
				sameAgain(t, g)
			}
		}
	}
}

func TestWhereverThePowerGoes(t *testing.T) {
	few := [][]int{nil, {1}, {1, 0}, {0, 1}, {0, 0, 1}, {1, 1, 0}, {-3, 4, 7}}
	for _, l := range families() {
		for i := 1; i <= api.MaxGroup; i++ {
			cutEach(t, grouped(policies()[i%2], i), two(), on(append(turns(len(l), 8), len(l)), l...), few, nil)
		}
	}
	d := dice(2)
	for range 12 {
		cutEach(t, grouped(1+d.roll(2), 1+d.roll(api.MaxGroup)), d.rows(), d.epoch(), few, nil)
	}
	for range 8 {
		cutEach(t, grouped(1+d.roll(2), 1+d.roll(api.MaxGroup)), two(), d.epoch(), [][]int{nil, {1}, {0, 1}}, []int{0, 1, 2, 3, 4, 5, 6, 7, 8, 9, 10})
	}
}

// One flush of several records of several sectors: whatever of them stays.
func TestWhateverStays(t *testing.T) {
	l := list(prog(put(0, "a", long(20)), commit()), prog(cut(0, "b"), commit()), prog(put(1, "x", long(15)), commit()), prog(put(0, "c", ""), put(1, "y", "1"), commit()))
	e := on(append(turns(4, 2), 3), l...)
	for group := 3; group <= api.MaxGroup; group++ {
		c := grouped(api.PolicyCircle, group)
		cutEach(t, c, two(), e, parts(7), nil)
	}
}

// Epochs one behind the other, of which any are cut, anywhere.
func TestManyEpochs(t *testing.T) {
	d := dice(3)
	later, cuts := 0, 0
	for range 60 {
		c := d.config()
		g := made(t, c, d.rows())
		for range 12 {
			e := d.epoch()
			e.Crash = -1
			m := g.Map()
			other := made(t, c, m)
			all := runs(t, other, e)
			maps := asIf(t, m, e.Programs, all)
			if d.roll(3) > 0 {
				e.Crash = d.roll(16)
				cuts++
			}
			later += upToSome(t, g, e, maps, all)
			if e.Crash < 0 && text(g.Map()) != text(other.Map()) {
				t.Fatalf("%v, not %v", g.Map(), other.Map())
			}
		}
	}
	if later < 12 || cuts < 400 {
		t.Errorf("%d, %d", later, cuts)
	}
}

// T4: round by round, with a flush behind each, all have ended within Bound.
func TestEachEndsWithinBound(t *testing.T) {
	round := func(c api.Config, m [][]api.Row, l []api.Program) {
		t.Helper()
		bound, e := check.Bound(c, l...)
		if e != api.OK {
			t.Fatalf("%v", e)
		}
		picks := turns(len(l)+1, bound/(len(l)+1)+1)[:bound]
		g := made(t, c, m)
		asOne(t, c, g, on(picks, l...))
		a := runs(t, made(t, c, m), on(picks, l...))
		for n := range l {
			if !hasEnded(l[n], a[n]) {
				t.Fatalf("%v: %d: %v", l, n, a[n])
			}
		}
		if g.Picks() != bound {
			t.Fatalf("%d, not %d", g.Picks(), bound)
		}
	}
	for _, l := range families() {
		for _, policy := range policies() {
			round(grouped(policy, 1), two(), l)
			round(grouped(policy, api.MaxGroup), two(), l)
		}
	}
	d := dice(4)
	for range 40 {
		round(d.config(), d.rows(), d.programs())
	}
}

// T5: with as many locks and versions as are told nobody is taken back for one.
func TestAsManyAsTold(t *testing.T) {
	d := dice(5)
	for range 100 {
		l, m := d.programs(), d.rows()
		c := grouped(1+d.roll(2), 1+d.roll(api.MaxGroup))
		locks, _ := check.Locks(c, l...)
		rooms, e := check.Rooms(c, l...)
		if e != api.OK || rooms+rowsOf(m) > api.MaxRooms {
			t.Fatalf("%v: %d, %v", l, rooms, e)
		}
		c.Locks, c.Versions = max(1, locks), max(1, rooms+rowsOf(m))
		for n, a := range runs(t, made(t, c, m), on(d.picks(len(l)), l...)) {
			if x := why(a); x == api.WhyLocks || x == api.WhyRoom {
				t.Fatalf("%v: %d: %v", l, n, a)
			}
		}
	}
}

// T5: picked one behind the other, each to its end, nobody is blocked or taken
// back: it is as if each was alone.
func TestOneBehindTheOther(t *testing.T) {
	d := dice(6)
	for range 100 {
		l, m := d.programs(), d.rows()
		g := made(t, grouped(1+d.roll(2), 1+d.roll(api.MaxGroup)), m)
		a := runs(t, g, on(inRow(l), l...))
		b, x, e := alone.Many(m, l...)
		if e != api.OK || text(g.Map()) != text(x) {
			t.Fatalf("%v: %v, not %v", l, g.Map(), x)
		}
		for n := range l {
			if at, commits := endOf(l[n]); !commits && len(b[n]) == at { // the end of the program is told, too
				b[n] = append(b[n], api.Answer{})
			}
			if text(withoutNumber(l[n], a[n])) != text(withoutNumber(l[n], b[n])) {
				t.Fatalf("%v: %d: %v, not %v", l, n, a[n], b[n])
			}
		}
	}
}
