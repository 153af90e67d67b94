package engine

import (
	"fmt"
	"slices"
	"testing"

	"quorum/api"
	"quorum/step"
	"quorum/tape"
	"quorum/wal"
)

// P20.2, where not all records fit: no epoch comes to it by itself, since each
// begins with an empty log, and what it may write is bounded. So a log is filled
// from within.

func two() api.Epoch {
	return api.Epoch{Programs: []api.Program{
		{Ops: []api.Op{{Kind: api.OpPut, Key: "a", Value: "x"}, {Kind: api.OpCommit}}},
		{Ops: []api.Op{{Kind: api.OpPut, Key: "b", Value: "y"}, {Kind: api.OpCommit}}},
	}}
}

func begunWith(t *testing.T, c api.Config, m [][]api.Row) *course {
	t.Helper()
	g, e := New(c, m)
	s, f := step.New(c, two().Programs, m)
	if e != api.OK || f != api.OK {
		t.Fatalf("%v, %v", e, f)
	}
	return &course{disk: g.disk, state: s, clock: s.Clock, left: -1}
}

// nearlyFull is behind a Save; its log has room for so many sectors more, and a
// Queue waits, of one program, for another one's commit.
func nearlyFull(t *testing.T, room int) *course {
	t.Helper()
	g := wide()
	g.Group = 2
	c := begunWith(t, g, [][]api.Row{{{Key: "a", Value: "1"}, {Key: "b", Value: "2"}}})
	if e := c.save(); e != api.OK {
		t.Fatalf("%v", e)
	}
	for c.log.At < api.MaxTape-room {
		puts, w, e := wal.Add(c.log, api.Record{Commit: 1, Writes: []api.Write{{Key: "a", Value: "1"}}})
		if e != api.OK || len(puts) != 1 {
			t.Fatalf("%v", e)
		}
		c.play(puts)
		c.log = w
	}
	c.play([]api.Do{{Sync: true}})
	for _, n := range []int{0, 1, 0} {
		next, e := step.Pick(c.state, n)
		if e != api.OK || c.goOn(next) != api.OK {
			t.Fatalf("%v", e)
		}
	}
	return c
}

func records() []api.Record {
	return []api.Record{{Commit: 2, Writes: []api.Write{{Key: "a", Value: "x"}}}, {Commit: 3, Writes: []api.Write{{Key: "b", Value: "y"}}}}
}

// wanted are the steps of the flush, in order.
func wanted(t *testing.T, c *course, room int) []api.Do {
	t.Helper()
	var l []api.Do
	w := c.log
	if room < 2 {
		l, w, _ = wal.Save(w, [][]api.Row{{{Key: "a", Value: "1"}, {Key: "b", Value: "2"}}})
	}
	for _, r := range records() {
		puts, x, e := wal.Add(w, r)
		if e != api.OK {
			t.Fatalf("%v", e)
		}
		l, w = append(l, puts...), x
	}
	return append(l, api.Do{Sync: true})
}

// behind is how many of both records are there, if so many steps are made, and
// then these stay.
func behind(l []api.Do, n int, keep []int) int {
	there := map[int]bool{}
	var waits []int
	for at, d := range l[:n] {
		waits = append(waits, at)
		if d.Sync {
			for _, x := range waits {
				there[x] = true
			}
			waits = nil
		}
	}
	for i, at := range waits {
		there[at] = len(keep) > 0 && keep[i%len(keep)] == 1
	}
	last := len(l) - 1
	switch {
	case there[last-2] && there[last-1]:
		return 2
	case there[last-2]:
		return 1
	}
	return 0
}

func TestNotAllFit(t *testing.T) {
	maps := []string{"[[{a 1} {b 2}]]", "[[{a x} {b 2}]]", "[[{a x} {b y}]]"}
	cutOff := "[[{0  0 []}] [{0  0 []}]]"
	whole := "[[{0  0 []} {0  2 []}] [{0  0 []} {0  3 []}]]"
	for _, room := range []int{0, 1, 2, 3} {
		ahead := nearlyFull(t, room)
		l := wanted(t, ahead, room)
		if many := map[bool]int{true: 7, false: 3}[room < 2]; len(l) != many {
			t.Fatalf("%d: %v", room, l)
		}
		for crash := range len(l) + 2 {
			for _, keep := range [][]int{nil, {1}, {1, 0}, {0, 1}, {0, 0, 1}} {
				own := *ahead
				c := &own
				x, _ := tape.Play(c.tape, crash, l...)
				c.left = crash
				e := c.pickAll([]int{1, 0, 1})
				if e != api.OK || c.isOff != (crash <= len(l)) || !slices.Equal(c.tape.Sectors, x.Sectors) || !slices.Equal(c.tape.Waits, x.Waits) {
					t.Fatalf("room %d, %d: %v, %t", room, crash, e, c.isOff)
				}
				told, m, picks := whole, maps[2], 3
				if c.isOff {
					c.tape, _ = tape.Crash(c.tape, keep...)
					told, m, picks = cutOff, maps[behind(l, min(crash, len(l)), keep)], 1
				}
				if c.isOff && c.restore() != api.OK || fmt.Sprint(c.answers()) != told || fmt.Sprint(c.now) != m || c.picks != picks {
					t.Errorf("room %d, %d, %v: %v, %v, not %s", room, crash, keep, c.answers(), c.now, m)
				}
				if e := c.restore(); e != api.OK || fmt.Sprint(c.now) != m {
					t.Errorf("room %d, %d, %v: %v, %v", room, crash, keep, e, c.now)
				}
			}
		}
	}
}

// The log goes on behind such a flush where it then stands.
func TestBehindOneThatDidNotFit(t *testing.T) {
	for _, room := range []int{0, 1} {
		c := nearlyFull(t, room)
		was := c.log
		if e := c.pickAll([]int{1}); e != api.OK || c.log != (api.Wal{Run: was.Run + 1, Slot: 1 - was.Slot, At: api.LogAt + 2, Seq: 3}) || c.clock != 3 {
			t.Errorf("%v, %v, %d", e, c.log, c.clock)
		}
	}
	c := nearlyFull(t, 2)
	was := c.log
	if e := c.pickAll([]int{1}); e != api.OK || c.log != (api.Wal{Run: was.Run, Slot: was.Slot, At: api.MaxTape, Seq: was.Seq + 2}) {
		t.Errorf("%v, %v", e, c.log)
	}
}

// A tape has runs up to a number; behind that nothing changes any more.
func TestRunsAtTheirEnd(t *testing.T) {
	g, _ := New(wide(), sized(3))
	g.log.Run = api.MaxNum - 2
	if a, e := g.Run(one()); e != api.OK || len(a) != 1 || len(g.Map()[0]) != 4 || g.Picks() != 2 {
		t.Fatalf("%v, %v", e, a)
	}
	m, x := fmt.Sprint(g.Map()), g.Tape()
	for range 2 {
		for _, crash := range []int{-1, 0, 1, 99} {
			l := one()
			l.Crash = crash
			a, e := g.Run(l)
			if y := g.Tape(); a != nil || e != api.ErrLimit || fmt.Sprint(g.Map()) != m || !slices.Equal(y.Sectors, x.Sectors) || len(y.Waits) != 0 || g.Picks() != 2 {
				t.Errorf("%v, %v", e, a)
			}
		}
		if e := g.Restore(); e != api.OK || fmt.Sprint(g.Map()) != m {
			t.Errorf("%v, %v", e, g.Map())
		}
	}
	// what may not run stands ahead of it
	if a, e := g.Run(api.Epoch{Programs: make([]api.Program, api.MaxProgs+1)}); a != nil || e != api.ErrLimit {
		t.Errorf("%v", e)
	}
	if a, e := g.Run(api.Epoch{Programs: []api.Program{{Ops: make([]api.Op, 1)}}}); a != nil || e != api.ErrForm {
		t.Errorf("%v", e)
	}
}

// Also where a Save amid has no run left.
func TestRunsAtTheirEndAmid(t *testing.T) {
	for _, room := range []int{0, 1} {
		for _, picks := range [][]int{nil, {2}, {1}} {
			c := nearlyFull(t, room)
			c.log.Run = api.MaxNum - 1
			was := c.tape
			c.left = 1
			if room == 1 && !slices.Equal(picks, []int{1}) { // the one record that waits fits
				continue
			}
			if e := c.pickAll(picks); e != api.ErrLimit || len(c.tape.Waits) != 0 || !slices.Equal(c.tape.Sectors, was.Sectors) {
				t.Errorf("%d, %v: %v", room, picks, e)
			}
		}
	}
}
