package script_test

import (
	"math"
	"slices"
	"testing"

	"quorum/api"
	"quorum/script"
)

// P21.1: ordinary inputs, and the edges of what is told.

// told is a Run in which nothing is wrong.
func told(t *testing.T, c api.Config, m [][]api.Row, l []api.Epoch) api.Report {
	t.Helper()
	r, e := script.Run(c, m, l)
	if e != api.OK || len(r.Answers) != len(l) || len(r.Maps) != len(l) {
		t.Fatalf("%v, %v: %v, %d, %d", c, l, e, len(r.Answers), len(r.Maps))
	}
	return r
}

// held is a Run that is held against the words.
func held(t *testing.T, c api.Config, m [][]api.Row, l []api.Epoch) (api.Report, api.Errno) {
	t.Helper()
	was := text(c, m, l)
	r, e := script.Run(c, m, l)
	want, f := byTheWords(c, m, l)
	if e != f || text(r) != text(want) || len(r.Answers) != len(want.Answers) || len(r.Maps) != len(want.Maps) {
		t.Fatalf("%v, %v, %v: %v, %v, not %v, %v", c, m, l, e, r, f, want)
	}
	for i, m := range r.Maps {
		if len(m) != c.Tables || len(r.Answers[i]) != len(want.Answers[i]) {
			t.Fatalf("%v, %v: %d: %v", c, l, i, r)
		}
	}
	if text(c, m, l) != was {
		t.Fatalf("not as it was: %v, %v, %v", c, m, l)
	}
	return r, e
}

// behind is what is told behind the epoch i of a report.
func behind(t *testing.T, r api.Report, i int, answers, m string) {
	t.Helper()
	if text(r.Answers[i]) != answers || text(r.Maps[i]) != m {
		t.Errorf("%d: %v, %v, not %s, %s", i, r.Answers[i], r.Maps[i], answers, m)
	}
}

func TestExample(t *testing.T) {
	for _, policy := range policies() {
		for group := 1; group <= api.MaxGroup; group++ {
			r := told(t, wide(policy, group), two(), epochs(on([]int{0, 0, 0}, prog(put(0, "d", "4"), cut(1, "x"), commit())), look()))
			behind(t, r, 0, "[[{0  0 []} {0  0 []} {0  2 []}]]", "[[{a 1} {b 2} {c 3} {d 4}] []]")
			behind(t, r, 1, "[[{0  0 [{a 1} {b 2} {c 3} {d 4}]} {0  0 []} {0  0 []}]]", "[[{a 1} {b 2} {c 3} {d 4}] []]")
		}
	}
}

// Epochs of all that programs do, by hand.
func TestEpochsByHand(t *testing.T) {
	l := epochs(
		// saved and returned, rolled back, not ended, read alone
		on(turns(5, 6), prog(put(0, "a", "x"), save(), put(0, "b", "y"), back(0), commit()), prog(insert(1, "y", "n"), rollback()), prog(hold(0, "c"), cut(0, "c")), reads(put(0, "a", ""), get(0, "a"), commit()), prog()),
		on(nil, prog(put(0, "a", "lost"), commit())),
		// a circle: the younger one is taken back, picked again nothing is told to it
		on([]int{0, 1, 0, 1, 1, 0, 1, 0}, prog(hold(0, "a"), put(0, "b", "0"), commit()), prog(hold(0, "b"), put(0, "a", "1"), commit())),
		// flushed by a pick; who waits for a lock goes on behind it
		on([]int{0, 0, 1, 2, 1, 1}, prog(put(1, "z", "f"), commit()), prog(get(1, "z"), commit())),
		look())
	m := "[[{a x} {b 2} {c 3}] [{x 9}]]"
	r := told(t, wide(api.PolicyCircle, 3), two(), l)
	behind(t, r, 0, "[[{0  0 []} {0  0 []} {0  0 []} {0  0 []} {0  2 []}] [{0  0 []} {0  0 []}] [{0 3 0 []} {0  0 []} {0  0 []}] [{6  0 []} {0 1 0 []} {0  0 []}] [{0  0 []}]]", m)
	behind(t, r, 1, "[[]]", m)
	m = "[[{a x} {b 0} {c 3}] [{x 9}]]"
	behind(t, r, 2, "[[{0 x 0 []} {0  0 []} {0  2 []}] [{0 2 0 []} {9  1 []}]]", m)
	m = "[[{a x} {b 0} {c 3}] [{x 9} {z f}]]"
	behind(t, r, 3, "[[{0  0 []} {0  2 []}] [{0 f 0 []} {0  2 []}]]", m)
	behind(t, r, 4, "[[{0  0 [{a x} {b 0} {c 3}]} {0  0 [{x 9} {z f}]} {0  0 []}]]", m)
	// the younger one dies, instead of waiting
	r = told(t, wide(api.PolicyDie, 3), two(), l)
	behind(t, r, 2, "[[{0 x 0 []} {0  0 []} {0  2 []}] [{0 2 0 []} {9  2 []}]]", "[[{a x} {b 0} {c 3}] [{x 9}]]")
}

// Whoever is taken back is told why, picked again it is told nothing, and it has
// left nothing.
func TestTakenBack(t *testing.T) {
	for _, x := range []struct {
		c       api.Config
		picks   []int
		l       []api.Program
		answers string
	}{
		{api.Config{Tables: 2, Locks: 9, Versions: 9, Group: 1, Policy: api.PolicyCircle}, []int{0, 1, 0, 1, 1, 1}, []api.Program{prog(put(0, "a", "0"), put(0, "b", "0")), prog(put(0, "b", "1"), put(0, "a", "1"), commit())}, "[[{0  0 []}] [{0  0 []} {9  1 []}]]"},
		{api.Config{Tables: 2, Locks: 9, Versions: 9, Group: 1, Policy: api.PolicyDie}, []int{0, 1, 1, 1}, []api.Program{prog(put(0, "a", "0")), prog(put(0, "a", "1"), commit())}, "[[{0  0 []}] [{9  2 []}]]"},
		{api.Config{Tables: 2, Locks: 1, Versions: 9, Group: 1, Policy: api.PolicyDie}, []int{0, 1, 1}, []api.Program{prog(put(0, "a", "0")), prog(put(0, "b", "1"), commit())}, "[[{0  0 []}] [{9  3 []}]]"},
		{api.Config{Tables: 2, Locks: 9, Versions: 6, Group: 1, Policy: api.PolicyDie}, []int{0, 0, 0, 0}, []api.Program{prog(put(0, "a", "0"), put(0, "a", "1"), cut(0, "b"), commit())}, "[[{0  0 []} {0  0 []} {9  4 []}]]"},
	} {
		r, _ := held(t, x.c, two(), epochs(on(x.picks, x.l...), look()))
		behind(t, r, 0, x.answers, text(two()))
		behind(t, r, 1, "[[{0  0 "+text(two()[0])+"} {0  0 "+text(two()[1])+"} {0  0 []}]]", text(two()))
	}
}

// The same epoch again, each time on what the one ahead of it left.
func TestTheSameEpochAgain(t *testing.T) {
	e := on(turns(3, 5), prog(insert(0, "n", "1"), put(0, "m", ""), commit()), prog(cut(0, "n"), cut(0, "a"), commit()), reads(get(0, "n"), commit()))
	l := slices.Repeat(epochs(e), 4)
	r := told(t, wide(api.PolicyCircle, 1), two(), l)
	held(t, wide(api.PolicyCircle, 1), two(), l)
	rest := "[{b 2} {c 3} {m }] [{x 9}]]"
	behind(t, r, 0, "[[{0  0 []} {0  0 []} {0  2 []}] [{0  0 []} {0  0 []} {0  3 []}] [{3  0 []} {0  0 []}]]", "["+rest)
	for i := 1; i < 4; i++ {
		behind(t, r, i, "[[{0  0 []} {0  0 []} {0  2 []}] [{0  0 []} {3  0 []} {0  3 []}] [{3  0 []} {0  0 []}]]", "["+rest)
	}
	held(t, wide(api.PolicyDie, 2), none(), slices.Repeat(epochs(off(e, 9, 1)), 20))
}

// Of each number of tables, without rows and with some.
func TestTables(t *testing.T) {
	for tables := 1; tables <= api.MaxTables; tables++ {
		for _, m := range [][][]api.Row{make([][]api.Row, tables), slices.Concat(two(), two())[:tables], [][]api.Row{rows(20), rows(20), rows(20)}[:tables]} {
			for _, policy := range policies() {
				for group := 1; group <= api.MaxGroup; group++ {
					c := wide(policy, group)
					c.Tables, c.Versions = tables, api.MaxRooms
					var l []api.Epoch
					for at := range tables {
						l = append(l, on(turns(2, 4), prog(put(at, "n", "1"), commit()), reads(scan(at, top(""), 9), commit())), off(on(turns(2, 4), prog(cut(at, "n"), commit())), 5+at, 1), on(nil, prog(get(tables, "n"))))
					}
					r, _ := held(t, c, m, l)
					for at := range tables {
						if !slices.Contains(r.Maps[3*at][at], api.Row{Key: "n", Value: "1"}) || len(r.Answers[3*at+2]) != 0 {
							t.Errorf("%d of %d: %v", at, tables, r)
						}
					}
				}
			}
		}
	}
}

// wantLength holds whether a list of epochs is too long.
func wantLength(t *testing.T, l []api.Epoch, want api.Errno) {
	t.Helper()
	r, e := script.Run(wide(api.PolicyDie, 2), two(), l)
	if e != want {
		t.Fatalf("%d epochs: %v, not %v", len(l), e, want)
	}
	if e != api.OK && (len(r.Answers) != 0 || len(r.Maps) != 0) {
		t.Fatalf("%v", r)
	}
	if e == api.OK && (len(r.Answers) != len(l) || len(r.Maps) != len(l)) {
		t.Fatalf("%d, %d, not %d", len(r.Answers), len(r.Maps), len(l))
	}
}

func TestHowManyEpochs(t *testing.T) {
	for n := range 60 {
		want := api.OK
		if n > 20 {
			want = api.ErrLimit
		}
		for _, l := range [][]api.Epoch{idle(n, 0), idle(n, 3), slices.Repeat(epochs(look()), n), make([]api.Epoch, n), slices.Repeat(epochs(on([]int{1}, prog(get(9, "")))), n)} {
			wantLength(t, l, want)
		}
	}
	for _, l := range [][]api.Epoch{nil, {}, make([]api.Epoch, 0, 30)} {
		r := told(t, wide(api.PolicyCircle, 1), two(), l)
		if len(r.Answers) != 0 || len(r.Maps) != 0 {
			t.Errorf("%v", r)
		}
	}
	wantLength(t, make([]api.Epoch, 1<<20), api.ErrLimit)
}

// parted are epochs that have these many picks.
func parted(like func(picks []int) api.Epoch, many ...int) []api.Epoch {
	var l []api.Epoch
	for _, n := range many {
		picks := make([]int, n)
		for i := range picks {
			picks[i] = []int{0, 0, 1, 2, -1, math.MaxInt, 5, math.MinInt, 1}[i%9]
		}
		l = append(l, like(picks))
	}
	return l
}

func TestHowManyPicks(t *testing.T) {
	hundred := slices.Repeat([]int{100}, 20)
	for _, like := range []func(picks []int) api.Epoch{
		func(picks []int) api.Epoch { return api.Epoch{Picks: picks} },
		func(picks []int) api.Epoch { return on(picks) },
		func(picks []int) api.Epoch { return on(picks, prog(put(0, "a", "n"), commit()), prog(get(0, "a"))) },
		func(picks []int) api.Epoch { return off(on(picks, prog(put(0, "a", "n"), commit())), 7) },
		func(picks []int) api.Epoch { return on(picks, prog(get(2, "a"))) },
		func(picks []int) api.Epoch { return on(picks, make([]api.Program, api.MaxProgs+1)...) },
	} {
		for _, many := range [][]int{{2000}, {1000, 1000}, {0, 2000, 0}, {1999, 1}, {1, 1999}, {667, 667, 666}, hundred} {
			wantLength(t, parted(like, many...), api.OK)
			for at := range many {
				more, less := slices.Clone(many), slices.Clone(many)
				more[at]++
				less[at] = max(0, less[at]-1)
				wantLength(t, parted(like, more...), api.ErrLimit)
				wantLength(t, parted(like, less...), api.OK)
			}
		}
		wantLength(t, parted(like, append(hundred[:19:19], 101)...), api.ErrLimit)
		wantLength(t, parted(like, append(hundred, 0)...), api.ErrLimit)
		wantLength(t, parted(like, 1<<20), api.ErrLimit)
	}
	// the last one of all picks counts
	long := on(append(make([]int, 1998), 1, 1), prog(), prog(put(0, "a", "late"), commit()))
	r := told(t, wide(api.PolicyDie, 1), two(), epochs(long))
	behind(t, r, 0, "[[{0  0 []}] [{0  0 []} {0  2 []}]]", "[[{a late} {b 2} {c 3}] [{x 9}]]")
}

// Epochs that err, at each place; those beside them go on as if these were not.
func TestEpochsThatErr(t *testing.T) {
	good := epochs(on(turns(2, 3), prog(put(0, "n", "1"), commit()), prog(get(0, "n"), commit())), off(on(turns(1, 3), prog(cut(0, "a"), commit())), 6, 1), look(), on(turns(2, 4), prog(insert(0, "n", "2"), put(1, "n", "2"), commit())))
	for i, bad := range []api.Epoch{
		on([]int{0, 0}, prog(get(2, "a"))), on([]int{0, 0}, prog(put(0, "n", "bad"), commit()), prog(api.Op{})), on(nil, prog(put(0, "n", "bad"), commit()), prog(api.Op{Kind: api.OpRollback + 1})),
		on([]int{1}, make([]api.Program, api.MaxProgs+1)...), on([]int{0}, prog(make([]api.Op, api.MaxOps+1)...)), on([]int{0}, prog(slices.Repeat([]api.Op{save()}, api.MaxOps+1)...)),
		on(nil, prog(put(0, "", "v"))), on(nil, prog(put(0, long(13), "v"))), on(nil, prog(put(0, "k", long(21)))), on(nil, prog(get(-1, "k"))), on(nil, prog(scan(0, to("b", "a"), 1))), on(nil, prog(scan(0, top(""), -1))), on(nil, reads(whole(0, api.ModeC))), on(nil, prog(back(api.MaxMarks))), on(nil, prog(api.Op{Kind: api.OpCommit, N: 1})),
		off(on([]int{0, 0}, prog(get(2, "a"))), 0, 1), off(on([]int{0}, make([]api.Program, 9)...), 3), off(on([]int{0}, make([]api.Program, 9)...), math.MaxInt, 1, math.MinInt),
	} {
		for _, policy := range policies() {
			c := wide(policy, 1)
			alone := told(t, c, two(), good)
			for at := range len(good) + 1 {
				r, _ := held(t, c, two(), slices.Insert(slices.Clone(good), at, bad))
				ahead := two()
				if at > 0 {
					ahead = r.Maps[at-1]
				}
				if len(r.Answers[at]) != 0 || text(r.Maps[at]) != text(ahead) {
					t.Errorf("%d at %d: %v, %v", i, at, r.Answers[at], r.Maps[at])
				}
				rest := api.Report{Answers: slices.Delete(r.Answers, at, at+1), Maps: slices.Delete(r.Maps, at, at+1)}
				if text(rest) != text(alone) {
					t.Errorf("%d at %d: %v, not %v", i, at, rest, alone)
				}
			}
			r, _ := held(t, c, two(), slices.Repeat(epochs(bad), 20))
			for at, m := range r.Maps {
				if len(r.Answers[at]) != 0 || text(m) != text(two()) {
					t.Errorf("%d, %d: %v", i, at, r)
				}
			}
		}
	}
}

// Epochs without programs, without picks: a list of answers for each program.
func TestNothingToDo(t *testing.T) {
	l := epochs(api.Epoch{}, api.Epoch{Crash: -1}, on([]int{0, 0, 1, -9}), on(nil, prog(put(0, "a", "0"), commit()), reads(), prog()), on([]int{3, 3}, prog(put(0, "a", "0"), commit()), reads(), prog()), on(turns(3, 2), prog(), reads(), prog()))
	for _, m := range [][][]api.Row{two(), none()} {
		r, _ := held(t, wide(api.PolicyDie, 2), m, l)
		for i, answers := range []string{"[]", "[]", "[]", "[[] [] []]", "[[] [] []]", "[[{0  0 []}] [{0  0 []}] [{0  0 []}]]"} {
			behind(t, r, i, answers, text(m))
		}
	}
}

// Where the power goes, by hand: five steps of the Save (an image of two sectors),
// then three of the first flush; it comes back with each epoch.
func TestPowerByHand(t *testing.T) {
	e := on(turns(3, 3), prog(put(0, "a", "x"), commit()), prog(cut(0, "b"), commit()), prog(put(1, "x", "y"), commit()))
	const (
		begun = "[[{0  0 []}] [{0  0 []}] [{0  0 []}]]"
		first = "[[{0  0 []} {0  2 []}] [{0  0 []} {0  3 []}] [{0  0 []}]]"
		all   = "[[{0  0 []} {0  2 []}] [{0  0 []} {0  3 []}] [{0  0 []} {0  4 []}]]"
		one   = "[[{a x} {b 2} {c 3}] [{x 9}]]"
		both  = "[[{a x} {c 3}] [{x 9}]]"
		three = "[[{a x} {c 3}] [{x y}]]"
	)
	for _, x := range []struct {
		crash      int
		keep       []int
		answers, m string
	}{
		{0, nil, "[[] [] []]", text(two())}, {0, []int{1}, "[[] [] []]", text(two())}, {4, []int{1}, "[[] [] []]", text(two())}, {5, []int{1}, "[[] [] []]", text(two())},
		{6, nil, begun, text(two())}, {6, []int{1}, begun, one}, {6, []int{0, 1}, begun, text(two())}, {6, []int{math.MaxInt}, begun, one}, {6, []int{math.MinInt}, begun, text(two())},
		{7, []int{}, begun, text(two())}, {7, []int{1}, begun, both}, {7, []int{-1, 0}, begun, one}, {7, []int{0, 1}, begun, text(two())}, {7, slices.Repeat([]int{-7}, 1000), begun, both},
		{8, nil, begun, both}, {9, nil, first, both}, {9, []int{5}, first, three}, {10, nil, first, three},
		{11, nil, all, three}, {12, []int{1}, all, three}, {math.MaxInt, nil, all, three}, {-1, nil, all, three}, {-1, []int{1}, all, three}, {math.MinInt, []int{1}, all, three},
	} {
		for at := range 3 {
			l := slices.Insert(epochs(look(), look()), at, off(e, x.crash, x.keep...))
			r, _ := held(t, wide(api.PolicyDie, 2), two(), l)
			behind(t, r, at, x.answers, x.m)
			for i, m := range r.Maps {
				if want := map[bool]string{true: x.m, false: text(two())}[i >= at]; text(m) != want {
					t.Errorf("%d, %v: %d: %v, not %s", x.crash, x.keep, i, m, want)
				}
			}
		}
	}
}

// All that scripts do, held against the words.
func TestScripts(t *testing.T) {
	for _, l := range families() {
		for _, policy := range policies() {
			for group := 1; group <= api.MaxGroup; group++ {
				for _, many := range []int{1, 2, 20} {
					held(t, wide(policy, group), two(), slices.Repeat(epochs(on(turns(len(l)+group%2, 8), l...), off(on(turns(len(l), 6), l...), 4+many+group, 1, 0)), many)[:many])
				}
				held(t, wide(policy, group), two(), epochs(on(inRow(l), l...), on(inRow(l)[2:], l...), look()))
			}
		}
	}
	d := dice(1)
	var answers, bad, cuts int
	for range 300 {
		l := d.script(1 + d.roll(20))
		r, e := held(t, d.config(), d.rows(), l)
		if e != api.OK {
			continue
		}
		for i, x := range r.Answers {
			answers += len(x)
			if len(x) < len(l[i].Programs) {
				bad++
			} else if l[i].Crash >= 0 {
				cuts++
			}
		}
	}
	if answers < 5000 || bad < 100 || cuts < 500 {
		t.Errorf("%d, %d, %d", answers, bad, cuts)
	}
}

// Each step of scripts of two epochs, or three, with what waits kept in each of
// these ways.
func TestEachStep(t *testing.T) {
	d := dice(2)
	for range 12 {
		c, m := d.config(), d.rows()
		c.Versions, c.Locks = 60, 100
		l := epochs(d.epoch(), d.epoch(), look())
		for crash := -1; crash < 30; crash++ {
			for _, keep := range [][]int{nil, {1}, {1, 0}, {0, 1}, {1, 1, 0}} {
				held(t, c, m, epochs(off(l[0], crash, keep...), l[1], l[2]))
				held(t, c, m, epochs(off(l[0], crash, keep...), off(l[1], (7*crash+11)%30, keep...), l[2]))
			}
		}
	}
}
