package engine_test

import (
	"math"
	"slices"
	"strings"
	"testing"

	"quorum/api"
	"quorum/engine"
	"quorum/tape"
	"quorum/wal"
)

func made(t *testing.T, c api.Config, m [][]api.Row) *engine.Engine {
	t.Helper()
	g, e := engine.New(c, m)
	if e != api.OK || g == nil {
		t.Fatalf("%v, %v: %v", c, m, e)
	}
	return g
}

// runs is a Run in which nothing is wrong.
func runs(t *testing.T, g *engine.Engine, e api.Epoch) [][]api.Answer {
	t.Helper()
	a, f := g.Run(e)
	if f != api.OK || len(a) != len(e.Programs) {
		t.Fatalf("%v: %v, %v", e, f, a)
	}
	return a
}

// on is an epoch in which the power stays on.
func on(picks []int, l ...api.Program) api.Epoch {
	return api.Epoch{Programs: l, Picks: picks, Crash: -1}
}

// is holds what an engine tells of itself.
func is(t *testing.T, g *engine.Engine, m string, picks int) {
	t.Helper()
	if text(g.Map()) != m || g.Picks() != picks {
		t.Errorf("%v, %d, not %s, %d", g.Map(), g.Picks(), m, picks)
	}
}

// played is a tape behind steps that follow each other.
func played(t *testing.T, x api.Tape, l ...[]api.Do) api.Tape {
	t.Helper()
	y, e := tape.Play(x, -1, slices.Concat(l...)...)
	if e != api.OK {
		t.Fatalf("%v", e)
	}
	return y
}

// P20.1

func TestNew(t *testing.T) {
	for _, policy := range policies() {
		for group := 1; group <= api.MaxGroup; group++ {
			for _, m := range [][][]api.Row{
				{nil}, {{}}, two()[:1], two(), {nil, nil}, {nil, nil, nil}, {two()[0], nil, two()[1]}, {rows(api.MaxRooms)}, {nil, nil, rows(api.MaxRooms)}, {rows(20), rows(20), rows(24)},
				{{{Key: "\x00", Value: "\xff"}, {Key: "\xff"}}}, {{{Key: long(api.MaxKey), Value: long(api.MaxValue)}}},
			} {
				for _, versions := range []int{max(1, rowsOf(m)), api.MaxRooms} {
					c := api.Config{Tables: len(m), Locks: 1, Versions: versions, Group: group, Policy: policy}
					p := paired(t, c, m)
					p.restored(t)
					is(t, p.g, text(m), 0)
				}
			}
		}
	}
}

// The first tape: the image in the first slot, of run 1, no log.
func TestFirstTape(t *testing.T) {
	g := made(t, grouped(api.PolicyDie, 1), two())
	empty, _ := tape.New(api.MaxTape)
	l, w, _ := wal.Format(two())
	x := g.Tape()
	if !sameTape(x, played(t, empty, l)) || len(x.Waits) != 0 {
		t.Errorf("another tape: %q", x.Sectors[:4])
	}
	m, records, y, e := wal.Open(x, 2)
	if e != api.OK || text(m) != text(two()) || len(records) != 0 || y != w || w != (api.Wal{Run: 1, At: api.LogAt, Seq: 1}) {
		t.Errorf("%v, %v, %v, %v", e, m, records, y)
	}
}

// badMaps are such as may not be, of two tables.
func badMaps() [][][]api.Row {
	var l [][][]api.Row
	for _, bad := range [][]api.Row{
		{{Key: "b"}, {Key: "a"}}, {{Key: "a"}, {Key: "a"}}, {{Key: "a"}, {Key: "b"}, {Key: "b"}}, {{Key: ""}}, {{Key: ""}, {Key: "a"}}, {{Key: long(13)}}, {{Key: "a", Value: long(21)}}, {{Key: long(256), Value: long(256)}},
		append(rows(api.MaxRooms+1), api.Row{Key: "0"}), append(rows(3000), api.Row{Key: "0"}),
	} {
		l = append(l, [][]api.Row{bad, nil}, [][]api.Row{nil, bad}, [][]api.Row{bad, rows(2)}, [][]api.Row{rows(api.MaxRooms + 1), bad})
	}
	return l
}

func TestErrorsOfNew(t *testing.T) {
	good := grouped(api.PolicyCircle, 2)
	extremes := []int{math.MinInt, -1, 0, math.MaxInt}
	all := slices.Concat(badMaps(), [][][]api.Row{nil, two(), two()[:1], {rows(api.MaxRooms + 1), nil}, {rows(api.MaxRooms), nil}, make([][]api.Row, 4)})
	wrong := func(c api.Config, m [][]api.Row, want api.Errno) {
		t.Helper()
		was := text(m)
		if g, e := engine.New(c, m); g != nil || e != want || text(m) != was {
			t.Errorf("%v, %v: %v, not %v", c, m, e, want)
		}
		if v, e := newLive(c, m); v != nil || e != want {
			t.Errorf("the words: %v, %v: %v, not %v", c, m, e, want)
		}
	}
	for field, most := range []int{api.MaxTables, api.MaxLocks, api.MaxRooms, api.MaxGroup, api.PolicyDie} {
		for _, n := range append(extremes, most+1) {
			c := good
			*[]*int{&c.Tables, &c.Locks, &c.Versions, &c.Group, &c.Policy}[field] = n
			for _, m := range all {
				wrong(c, m, api.ErrConfig)
			}
		}
	}
	wrong(api.Config{}, nil, api.ErrConfig)
	for _, versions := range []int{1, 2, 60, api.MaxRooms} {
		c := good
		c.Versions = versions
		for _, m := range badMaps() {
			wrong(c, m, api.ErrForm)
		}
		for _, m := range [][][]api.Row{nil, {}, two()[:1], {nil, nil, nil}, make([][]api.Row, 99), {rows(api.MaxRooms + 1)}, {rows(api.MaxRooms), rows(1), nil}} {
			wrong(c, m, api.ErrForm)
		}
		for _, m := range [][][]api.Row{{rows(api.MaxRooms + 1), nil}, {nil, rows(api.MaxRooms + 1)}, {rows(33), rows(32)}, {rows(300), rows(200)}} {
			wrong(c, m, api.ErrFull)
		}
		if versions < api.MaxRooms {
			wrong(c, [][]api.Row{rows(versions + 1), nil}, api.ErrLimit)
			wrong(c, [][]api.Row{rows(1), rows(versions)}, api.ErrLimit)
			wrong(c, [][]api.Row{nil, rows(api.MaxRooms)}, api.ErrLimit)
		}
		paired(t, c, [][]api.Row{rows(versions), nil})
		paired(t, c, [][]api.Row{rows(versions - 1), rows(1)})
	}
}

// P20.2

func TestExample(t *testing.T) {
	g := made(t, grouped(api.PolicyCircle, 1), two())
	a := runs(t, g, on([]int{0, 0}, prog(put(0, "d", "4"), commit())))
	if text(a) != "[[{0  0 []} {0  2 []}]]" {
		t.Errorf("%v", a)
	}
	is(t, g, "[[{a 1} {b 2} {c 3} {d 4}] [{x 9}]]", 2)
}

// Each epoch sees what those ahead of it committed.
func TestEpochs(t *testing.T) {
	for _, policy := range policies() {
		p := paired(t, grouped(policy, 2), two())
		a := p.run(t, on([]int{0, 1, 2, 0, 1, 1, 0, 3, 2, 4, 0, 0, 4, 9, -1, 2, 3}, prog(put(0, "a", "x"), insert(0, "d", "n"), commit()), prog(get(0, "a"), cut(1, "x"), commit()), reads(scan(0, top(""), 9), put(0, "a", ""), commit()), prog(put(1, "y", "z"))))
		if text(a) != "[[{0  0 []} {0  0 []} {0  3 []}] [{0 1 0 []} {0  0 []} {0  2 []}] [{0  0 [{a 1} {b 2} {c 3}]} {6  0 []} {0  0 []}] [{0  0 []} {0  0 []}]]" {
			t.Errorf("%v", a)
		}
		is(t, p.g, "[[{a x} {b 2} {c 3} {d n}] []]", 17)
		p.restored(t)
		p = paired(t, grouped(policy, 1), two())
		first := []api.Program{prog(put(0, "a", "x"), cut(0, "b"), commit()), prog(insert(0, "a", "y"), insert(1, "y", "7"), rollback()), prog(cut(1, "x"), save(), put(1, "z", "8"), back(0), commit()), reads(scan(0, top(""), 9), put(0, "a", "q"), get(1, "x"), commit())}
		a = p.run(t, on(inRow(first), first...))
		if text(a) != "[[{0  0 []} {0  0 []} {0  2 []}] [{4  0 []} {0  0 []} {0  0 []}] [{0  0 []} {0  0 []} {0  0 []} {0  0 []} {0  3 []}] [{0  0 [{a x} {c 3}]} {6  0 []} {3  0 []} {0  0 []}]]" {
			t.Errorf("%v", a)
		}
		is(t, p.g, "[[{a x} {c 3}] []]", len(inRow(first)))
		second := []api.Program{prog(get(0, "a"), get(0, "b"), get(1, "x"), get(1, "z"), commit()), prog(insert(0, "b", "new"), cut(0, "a"), hold(0, "c"), commit())}
		a = p.run(t, on(inRow(second), second...))
		if text(a) != "[[{0 x 0 []} {3  0 []} {3  0 []} {3  0 []} {0  1 []}] [{0  0 []} {0  0 []} {0 3 0 []} {0  2 []}]]" {
			t.Errorf("%v", a)
		}
		is(t, p.g, "[[{b new} {c 3}] []]", len(inRow(first))+len(inRow(second)))
		third := []api.Program{prog(cut(0, "b"), cut(0, "c"), commit())}
		p.run(t, on(inRow(third), third...))
		is(t, p.g, "[[] []]", len(inRow(first))+len(inRow(second))+len(inRow(third)))
		p.restored(t)
		// a map without rows has no commit
		if a = p.run(t, on(turns(2, 2), prog(put(0, "k", "v"), commit()), reads(scan(0, top(""), 1), commit()))); text(a) != "[[{0  0 []} {0  1 []}] [{0  0 []} {0  0 []}]]" {
			t.Errorf("%v", a)
		}
		p.restored(t)
	}
}

// Of each number of tables, without rows and with some.
func TestTables(t *testing.T) {
	for tables := 1; tables <= api.MaxTables; tables++ {
		for _, like := range [][][]api.Row{make([][]api.Row, tables), slices.Concat(two(), two())[:tables]} {
			c := grouped(api.PolicyCircle, 2)
			c.Tables = tables
			p := paired(t, c, like)
			for i := range 2 * tables {
				at := i % tables
				p.run(t, on(turns(3, 4), prog(put(at, "n", text(i)), cut(at, "a"), commit()), reads(get(at, "n"), scan(at, top(""), 9), commit()), prog(insert(tables-1-at, "m", text(i)), commit())))
				p.restored(t)
				if m := p.g.Map(); !slices.Contains(m[at], api.Row{Key: "n", Value: text(i)}) || !strings.Contains(text(m[tables-1-at]), "{m ") {
					t.Errorf("%d of %d: %v", at, tables, m)
				}
			}
			if a, e := p.g.Run(on([]int{0}, prog(get(tables, "n")))); a != nil || e != api.ErrForm {
				t.Errorf("%v, %v", e, a)
			}
		}
	}
}

// some are programs of which the first two are flushed by Group, the fourth one by a
// pick; the last one stays open.
func some() api.Epoch {
	return on([]int{2, 0, 1, 0, 1, 3, 4, 3, 5, 2, 2, 2},
		prog(put(0, "a", "x"), commit()), prog(cut(0, "b"), commit()), reads(get(0, "a"), scan(0, to("a", "c"), 9), get(1, "x"), commit()), prog(put(1, "x", "y"), commit()), prog(put(0, "z", "q"), commit()))
}

const (
	someBehind = "[[{a x} {c 3}] [{x y}]]"
	someTold   = "[[{0  0 []} {0  2 []}] [{0  0 []} {0  3 []}] [{0 1 0 []} {0  0 [{a 1} {b 2}]} {0 9 0 []} {0  0 []}] [{0  0 []} {0  4 []}] [{0  0 []}]]"
)

// The steps on the tape, byte by byte and in order.
func TestStepsOnTheTape(t *testing.T) {
	g := made(t, grouped(api.PolicyCircle, 2), two())
	x := g.Tape()
	a := runs(t, g, some())
	if text(a) != someTold {
		t.Errorf("%v", a)
	}
	is(t, g, someBehind, 12)
	sync := []api.Do{{Sync: true}}
	first, w, _ := wal.Save(api.Wal{Run: 1, At: api.LogAt, Seq: 1}, two())
	one, w, _ := wal.Add(w, api.Record{Commit: 2, Writes: []api.Write{{Key: "a", Value: "x"}}})
	other, w, _ := wal.Add(w, api.Record{Commit: 3, Writes: []api.Write{{Key: "b", Gone: true}}})
	third, w, _ := wal.Add(w, api.Record{Commit: 4, Writes: []api.Write{{Table: 1, Key: "x", Value: "y"}}})
	x = played(t, x, first, one, other, sync, third, sync)
	if !sameTape(g.Tape(), x) {
		t.Fatalf("another tape")
	}
	// a Save each time, by turns in both slots
	for turn := range 4 {
		behind := [][]api.Row{{{Key: "a", Value: "x"}, {Key: "c", Value: "3"}}, {{Key: "x", Value: "y"}}}
		if w.Run != turn+2 || w.Slot != 1-turn%2 {
			t.Fatalf("%d: %v", turn, w)
		}
		first, next, _ := wal.Save(w, behind)
		runs(t, g, api.Epoch{Crash: -1})
		x, w = played(t, x, first), next
		if !sameTape(g.Tape(), x) {
			t.Fatalf("%d: another tape", turn)
		}
	}
	if w.At != api.LogAt || w.Seq != 1 {
		t.Errorf("%v", w)
	}
}

// A record of several sectors, and one sum of several writes of a key.
func TestWhatIsLogged(t *testing.T) {
	g := made(t, grouped(api.PolicyDie, api.MaxGroup), [][]api.Row{nil, nil})
	x := g.Tape()
	runs(t, g, on([]int{0, 0, 0, 0, 0, 0, 1, 1, 1}, prog(put(1, "k", "1"), save(), put(1, "k", "2"), put(0, "n", long(20)), cut(1, "k"), commit()), prog(put(0, "a", long(20)), put(1, "z", long(20)), commit())))
	first, w, _ := wal.Save(api.Wal{Run: 1, At: api.LogAt, Seq: 1}, make([][]api.Row, 2))
	one, w, e := wal.Add(w, api.Record{Commit: 1, Writes: []api.Write{{Key: "n", Value: long(20)}, {Table: 1, Key: "k", Gone: true}}})
	other, _, f := wal.Add(w, api.Record{Commit: 2, Writes: []api.Write{{Key: "a", Value: long(20)}, {Table: 1, Key: "z", Value: long(20)}}})
	if e != api.OK || f != api.OK || !sameTape(g.Tape(), played(t, x, first, one, other, []api.Do{{Sync: true}})) {
		t.Errorf("another tape: %v, %v", e, f)
	}
	is(t, g, text([][]api.Row{{{Key: "a", Value: long(20)}, {Key: "n", Value: long(20)}}, {{Key: "z", Value: long(20)}}}), 9)
}

// Where the power goes, by hand: of some there are five steps of the Save (an
// image of two sectors), three of the first flush, two of the second one.
func TestPowerByHand(t *testing.T) {
	const (
		before = "[[{a 1} {b 2} {c 3}] [{x 9}]]"
		first  = "[[{a x} {b 2} {c 3}] [{x 9}]]"
		second = "[[{a x} {c 3}] [{x 9}]]"
		none   = "[[] [] [] [] []]"
		inOne  = "[[{0  0 []}] [{0  0 []}] [{0 1 0 []}] [] []]"
		inTwo  = "[[{0  0 []} {0  2 []}] [{0  0 []} {0  3 []}] [{0 1 0 []}] [{0  0 []}] [{0  0 []}]]"
	)
	for _, x := range []struct {
		crash int
		keep  []int
		told  string
		m     string
		picks int
	}{
		{0, nil, none, before, 0}, {0, []int{1}, none, before, 0}, {1, []int{1}, none, before, 0}, {2, []int{1}, none, before, 0}, {3, nil, none, before, 0}, {4, []int{1}, none, before, 0}, {4, nil, none, before, 0}, {5, nil, none, before, 0},
		{6, nil, inOne, before, 5}, {6, []int{1}, inOne, first, 5}, {6, []int{0, 1}, inOne, before, 5}, {6, []int{-1, 0, 0}, inOne, first, 5}, {6, []int{math.MaxInt}, inOne, first, 5}, {6, []int{math.MinInt}, inOne, before, 5},
		{7, nil, inOne, before, 5}, {7, []int{}, inOne, before, 5}, {7, []int{1}, inOne, second, 5}, {7, []int{1, 0}, inOne, first, 5}, {7, []int{0, 1}, inOne, before, 5}, {7, []int{3, -3, 0}, inOne, second, 5}, {7, []int{2}, inOne, before, 5}, {7, []int{math.MaxInt, math.MinInt}, inOne, first, 5},
		{8, nil, inOne, second, 5}, {8, []int{0}, inOne, second, 5},
		{9, nil, inTwo, second, 9}, {9, []int{0, 1}, inTwo, second, 9}, {9, []int{1}, inTwo, someBehind, 9},
		{10, nil, inTwo, someBehind, 9}, {10, []int{1}, inTwo, someBehind, 9},
		{11, nil, someTold, someBehind, 12}, {12, []int{1}, someTold, someBehind, 12}, {math.MaxInt, nil, someTold, someBehind, 12},
		{-1, nil, someTold, someBehind, 12}, {-2, []int{1}, someTold, someBehind, 12}, {math.MinInt, nil, someTold, someBehind, 12},
	} {
		p := paired(t, grouped(api.PolicyCircle, 2), two())
		e := some()
		e.Crash, e.Keep = x.crash, x.keep
		if a := p.run(t, e); text(a) != x.told {
			t.Errorf("%d, %v: %v", x.crash, x.keep, a)
		}
		is(t, p.g, x.m, x.picks)
		p.restored(t)
		is(t, p.g, x.m, x.picks)
		// and on from there: commits are told anew from the first one on
		if a := p.run(t, on([]int{0, 1, 0, 0}, prog(put(0, "more", "m"), commit()))); text(a) != "[[{0  0 []} {0  2 []}]]" || !strings.Contains(text(p.g.Map()), "{more m}") {
			t.Errorf("%d, %v: %v, %v", x.crash, x.keep, a, p.g.Map())
		}
	}
}

// Behind the last pick there is a flush; the power may go in that.
func TestPowerInTheLastFlush(t *testing.T) {
	l := list(prog(put(0, "a", "x"), commit()), prog(put(0, "b", "y"), commit()), prog(put(0, "c", "z"), commit()))
	told := []string{"[[{0  0 []}] [{0  0 []}] [{0  0 []}]]", "[[{0  0 []} {0  3 []}] [{0  0 []} {0  2 []}] [{0  0 []}]]"}
	for crash, x := range map[int]struct {
		keep []int
		told string
		m    string
	}{
		6: {[]int{1}, told[0], "[[{a 1} {b y} {c 3}] [{x 9}]]"}, 7: {[]int{1}, told[0], "[[{a x} {b y} {c 3}] [{x 9}]]"}, 8: {nil, told[0], "[[{a x} {b y} {c 3}] [{x 9}]]"}, 9: {nil, told[1], "[[{a x} {b y} {c 3}] [{x 9}]]"},
	} {
		p := paired(t, grouped(api.PolicyDie, 3), two())
		a := p.run(t, api.Epoch{Programs: l, Picks: []int{0, 1, 1, 0, 2}, Crash: crash, Keep: x.keep})
		if text(a) != x.told {
			t.Errorf("%d: %v", crash, a)
		}
		is(t, p.g, x.m, 5)
		p.restored(t)
	}
}

// Who was taken back by the pick whose flush was cut keeps its answer.
func TestTakenBackAheadOfACut(t *testing.T) {
	ring := list(prog(get(0, "a"), put(0, "b", "0"), commit()), prog(get(0, "b"), put(0, "a", "1"), commit()))
	for crash, told := range map[int]string{
		5: "[[] []]",
		6: "[[{0 1 0 []} {0  0 []}] [{0 2 0 []} {0  0 []} {9  1 []}]]",
		7: "[[{0 1 0 []} {0  0 []}] [{0 2 0 []} {0  0 []} {9  1 []}]]",
		8: "[[{0 1 0 []} {0  0 []} {0  2 []}] [{0 2 0 []} {0  0 []} {9  1 []}]]",
	} {
		p := paired(t, grouped(api.PolicyCircle, 1), two())
		a := p.run(t, api.Epoch{Programs: ring, Picks: []int{0, 1, 0, 1, 1, 0, 1}, Crash: crash})
		if text(a) != told {
			t.Errorf("%d: %v", crash, a)
		}
		p.restored(t)
	}
}

// Whoever reads alone sees what was there as it began, across flushes.
func TestReadsAcrossFlushes(t *testing.T) {
	l := list(reads(get(0, "a"), get(0, "a"), scan(0, top("b"), 9), get(0, "a"), commit()), prog(put(0, "a", "x"), commit()), prog(cut(0, "b"), put(0, "a", "y"), commit()), reads(get(0, "a"), commit()))
	p := paired(t, grouped(api.PolicyDie, 1), two())
	a := p.run(t, on([]int{0, 1, 1, 0, 3, 2, 2, 2, 0, 0, 3, 0}, l...))
	if text(a) != "[[{0 1 0 []} {0 1 0 []} {0  0 [{b 2} {c 3}]} {0 1 0 []} {0  0 []}] [{0  0 []} {0  2 []}] [{0  0 []} {0  0 []} {0  3 []}] [{0 x 0 []} {0  0 []}]]" {
		t.Errorf("%v", a)
	}
	is(t, p.g, "[[{a y} {c 3}] [{x 9}]]", 12)
}

// Where nothing is to be flushed, nothing comes to the tape: there is a Save alone.
func TestNoSteps(t *testing.T) {
	for name, e := range map[string]api.Epoch{
		"nothing":                    {},
		"no programs":                {Picks: []int{0, 0, 1, -1, 0}},
		"no picks":                   {Programs: list(prog(put(0, "a", "x"), commit()))},
		"empty queues":               {Programs: list(prog(put(0, "a", "x"), commit())), Picks: []int{1, 0, 1, 1}},
		"commits of nothing written": {Programs: list(prog(get(0, "a"), commit()), prog(save(), put(0, "a", "x"), back(0), commit()), reads(get(0, "a"), put(0, "a", "x"), commit())), Picks: append(turns(3, 5), 3)},
		"rolled back":                {Programs: list(prog(put(0, "a", "x"), rollback()), prog(put(0, "b", "x"))), Picks: turns(2, 3)},
		"picks that are none":        {Programs: list(prog(put(0, "a", "x"), commit())), Picks: []int{0, 2, 3, -1, math.MinInt, math.MaxInt}},
	} {
		p := paired(t, grouped(api.PolicyCircle, 1), two())
		x := p.g.Tape()
		steps, _, _ := wal.Save(api.Wal{Run: 1, At: api.LogAt, Seq: 1}, two())
		for _, crash := range []int{-1, len(steps) + 1} {
			p = paired(t, grouped(api.PolicyCircle, 1), two())
			e.Crash = crash
			p.run(t, e)
			is(t, p.g, text(two()), len(e.Picks))
			if !sameTape(p.g.Tape(), played(t, x, steps)) {
				t.Errorf("%s: another tape", name)
			}
		}
		p = paired(t, grouped(api.PolicyCircle, 1), two())
		e.Crash = len(steps)
		p.run(t, e)
		is(t, p.g, text(two()), 0)
	}
}

// What is open behind the last pick is undone, without an answer.
func TestOpenBehindTheLastPick(t *testing.T) {
	for _, policy := range policies() {
		p := paired(t, grouped(policy, 2), two())
		a := p.run(t, on([]int{0, 1, 2, 1, 3, 5, 4}, prog(put(0, "a", "x"), commit()), prog(put(0, "b", "x"), commit()), prog(put(1, "q", "x"), put(1, "r", "x"), commit()), prog(get(0, "a"), commit()), reads(get(0, "b"), commit())))
		want := "[[{0  0 []}] [{0  0 []} {0  2 []}] [{0  0 []}] [{0 1 0 []}] [{0 x 0 []}]]"
		if text(a) != want {
			t.Errorf("%v", a)
		}
		is(t, p.g, "[[{a 1} {b x} {c 3}] [{x 9}]]", 7)
		p.restored(t)
		// nothing of them is left: nobody is in the way, and there is as much room
		a = p.run(t, on(turns(2, 4), prog(put(0, "a", "y"), commit()), prog(put(1, "q", "y"), commit())))
		if text(a) != "[[{0  0 []} {0  2 []}] [{0  0 []} {0  3 []}]]" {
			t.Errorf("%v", a)
		}
	}
}

// Picks of sessions that are over, and such as are none, are counted.
func TestPicks(t *testing.T) {
	g := made(t, grouped(api.PolicyDie, 1), two())
	picks := []int{0, 0, 0, 0, 1, 2, -1, math.MinInt, math.MaxInt, 0}
	for i := range 3 {
		runs(t, g, on(picks, prog(put(0, "a", "x"), commit())))
		is(t, g, "[[{a x} {b 2} {c 3}] [{x 9}]]", (i+1)*len(picks))
	}
	if e := g.Restore(); e != api.OK || g.Picks() != 3*len(picks) {
		t.Errorf("%v, %d", e, g.Picks())
	}
	// up to where the power went
	for crash, n := range map[int]int{0: 0, 5: 0, 6: 4, 7: 4, 8: len(picks) + 2, -1: len(picks) + 2} {
		g = made(t, grouped(api.PolicyDie, 1), two())
		runs(t, g, api.Epoch{Programs: list(prog(put(0, "a", "x"), commit())), Picks: append([]int{1, -1}, picks...), Crash: crash})
		if g.Picks() != n {
			t.Errorf("%d: %d, not %d", crash, g.Picks(), n)
		}
	}
}

// As many rows as may be, and one that makes room for another.
func TestFullMaps(t *testing.T) {
	c := grouped(api.PolicyCircle, 1)
	c.Versions = api.MaxRooms
	for _, m := range [][][]api.Row{{rows(api.MaxRooms), nil}, {nil, rows(api.MaxRooms)}, {rows(30), rows(34)}} {
		p := paired(t, c, m)
		a := p.run(t, on(turns(1, 2), prog(put(1, "new", ""), commit())))
		if text(a) != "[[{9  4 []}]]" {
			t.Errorf("%v", a)
		}
		is(t, p.g, text(m), 2)
		p.restored(t)
	}
	p := paired(t, c, [][]api.Row{rows(api.MaxRooms - 1), nil})
	l := list(prog(put(1, "new", "1"), commit()))
	p.run(t, on(inRow(l), l...))
	is(t, p.g, text([][]api.Row{rows(api.MaxRooms - 1), {{Key: "new", Value: "1"}}}), len(inRow(l)))
	p.restored(t)
	// where each row is a version there is room for none
	if a := p.run(t, on(inRow(l), l...)); text(a) != "[[{9  4 []}]]" {
		t.Errorf("%v", a)
	}
}

// Beside an error nothing changes: not the map, not the tape, not Picks.
func TestErrorsOfRun(t *testing.T) {
	right := prog(put(0, "a", "x"), commit())
	many := make([]api.Program, api.MaxProgs+1)
	wrongMany := append(slices.Clone(many), prog(get(5, "a")))
	for i, x := range []struct {
		l []api.Program
		e api.Errno
	}{
		{many, api.ErrLimit}, {wrongMany, api.ErrLimit}, {make([]api.Program, 300), api.ErrLimit},
		{list(prog(slices.Repeat([]api.Op{save()}, api.MaxOps+1)...)), api.ErrForm}, {list(right, prog(api.Op{})), api.ErrForm}, {list(right, prog(get(2, "a"))), api.ErrForm}, {list(prog(get(-1, "a")), right), api.ErrForm},
		{list(prog(get(0, ""))), api.ErrForm}, {list(prog(put(0, long(13), ""))), api.ErrForm}, {list(prog(put(0, "a", long(21)))), api.ErrForm}, {list(prog(api.Op{Kind: api.OpCommit, N: 1})), api.ErrForm}, {list(prog(api.Op{Kind: math.MaxInt})), api.ErrForm}, {list(prog(api.Op{Kind: math.MinInt})), api.ErrForm},
		{list(prog(whole(0, api.ModeC))), api.ErrForm}, {list(reads(get(0, "a"), api.Op{Kind: 99})), api.ErrForm}, {append(slices.Repeat(list(right), 5), prog(cut(3, "a"))), api.ErrForm},
	} {
		for _, behind := range []int{0, 1, 2} {
			for _, crash := range []int{-1, 0, 1, 6} {
				p := paired(t, grouped(api.PolicyDie, 1), two())
				for range behind {
					p.run(t, some())
				}
				m, y, n := text(p.g.Map()), p.g.Tape(), p.g.Picks()
				a, e := p.g.Run(api.Epoch{Programs: x.l, Picks: []int{0, 0, 1, 1}, Crash: crash, Keep: []int{1}})
				if a != nil || e != x.e || text(p.g.Map()) != m || !sameTape(p.g.Tape(), y) || p.g.Picks() != n {
					t.Errorf("%d: %v, %v", i, e, a)
				}
				p.alike(t)
				p.run(t, some())
				p.restored(t)
			}
		}
	}
	// as many as may be
	p := paired(t, grouped(api.PolicyDie, 1), two())
	p.run(t, on(turns(6, 14), slices.Repeat(list(prog(append(puts(api.MaxOps-1, "q"), commit())...)), api.MaxProgs)...))
	p.restored(t)
}

// An engine that New didn't make has no tape: it tells errors.
func TestNoEngine(t *testing.T) {
	g := new(engine.Engine)
	x := g.Tape()
	a, e := g.Run(some())
	if f := g.Restore(); a != nil || e != api.ErrConfig || f != api.ErrForm || len(g.Map()) != 0 || len(x.Sectors) != 0 || len(x.Waits) != 0 || g.Picks() != 0 {
		t.Errorf("%v, %v, %v", e, f, g.Map())
	}
}

// P20.3

func TestRestore(t *testing.T) {
	p := paired(t, grouped(api.PolicyDie, 2), two())
	for i := range 8 {
		e := some()
		e.Crash, e.Keep = 3*i-2, []int{i & 1, i >> 1 & 1}
		p.run(t, e)
		m, x := text(p.g.Map()), p.g.Tape()
		p.restored(t)
		is(t, p.g, m, p.v.picks)
		if !sameTape(p.g.Tape(), x) {
			t.Errorf("%d: another tape", i)
		}
		if i%2 == 0 { // on from a Restore as if there was none
			p.run(t, on([]int{0, 0}, prog(put(1, "r", text(i)), commit())))
		}
	}
}

// All that is told, of any epochs, against the words.

func TestAgainstTheWords(t *testing.T) {
	d := dice(20)
	var off, stayed int
	for range 250 {
		p := paired(t, d.config(), d.rows())
		for range 1 + d.roll(5) {
			e := d.epoch()
			if d.roll(2) == 0 {
				e.Crash = d.roll(20)
			}
			p.run(t, e)
			if p.v.isOff {
				off++
			} else {
				stayed++
			}
			if d.roll(3) == 0 {
				p.restored(t)
			}
		}
	}
	if off < 120 || stayed < 200 {
		t.Errorf("%d, %d", off, stayed)
	}
}

// Each step of some families is one behind which the power goes.
func TestEachStep(t *testing.T) {
	keeps := [][]int{nil, {1}, {0, 1}, {1, 0}, {1, 1, 0}, {-1, 2, 3, 0}}
	for _, l := range families() {
		for i, group := range []int{1, 2, api.MaxGroup} {
			e := on(append(turns(len(l), 8), len(l)), l...)
			p := paired(t, grouped(policies()[i%2], group), two())
			p.run(t, e)
			for crash := range len(p.v.done) + 2 {
				for _, keep := range keeps {
					p := paired(t, grouped(policies()[i%2], group), two())
					e.Crash, e.Keep = crash, keep
					p.run(t, e)
					if p.v.isOff != (crash <= len(p.v.done)) {
						t.Fatalf("%d of %d", crash, len(p.v.done))
					}
					p.restored(t)
				}
			}
		}
	}
}
