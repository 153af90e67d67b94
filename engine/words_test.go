package engine_test

import (
	"fmt"
	"slices"
	"testing"

	"quorum/alone"
	"quorum/api"
	"quorum/check"
	"quorum/engine"
	"quorum/order"
	"quorum/pend"
	"quorum/step"
	"quorum/tape"
	"quorum/wal"
)

// The words of the chapter, gone through anew, to hold the calls against: each
// step is made by itself, and what a flush writes is told from the queue ahead of
// it, where the calls go by what a pick leads to.

func text(x ...any) string { return fmt.Sprint(x...) }

// live is an engine.
type live struct {
	c     api.Config
	tape  api.Tape
	m     [][]api.Row
	w     api.Wal
	picks int
	done  []api.Do // the steps of the last Run that were made
	isOff bool     // whether the power went in it
}

func rowsOf(m [][]api.Row) int {
	n := 0
	for _, rows := range m {
		n += len(rows)
	}
	return n
}

func newLive(c api.Config, m [][]api.Row) (*live, api.Errno) {
	if e := check.Config(c); e != api.OK {
		return nil, e
	}
	if alone.Check(m) != api.OK || len(m) != c.Tables {
		return nil, api.ErrForm
	}
	steps, w, e := wal.Format(m)
	if e != api.OK {
		return nil, e
	}
	if rowsOf(m) > c.Versions {
		return nil, api.ErrLimit
	}
	v := &live{c: c, w: w, m: copied(m)}
	v.tape, _ = tape.New(api.MaxTape)
	for _, d := range steps {
		v.step(d)
	}
	v.done = nil
	return v, api.OK
}

func copied(m [][]api.Row) [][]api.Row {
	var x [][]api.Row
	for _, rows := range m {
		x = append(x, slices.Clone(rows))
	}
	return x
}

func (v *live) step(d api.Do) {
	x, e := tape.Play(v.tape, -1, d)
	if e != api.OK {
		panic(e)
	}
	v.tape, v.done = x, append(v.done, d)
}

// steps are made till the power goes, be it behind none of them, or behind the
// last one.
func (v *live) steps(l []api.Do, crash int) {
	for _, d := range l {
		if v.isOff = len(v.done) == crash; v.isOff {
			return
		}
		v.step(d)
	}
	v.isOff = len(v.done) == crash
}

func (v *live) save(m [][]api.Row, crash int) api.Errno {
	l, w, e := wal.Save(v.w, m)
	if e == api.OK {
		v.steps(l, crash)
		v.w = w
	}
	return e
}

// lasts lays down what those in the queue wrote.
func (v *live) lasts(s api.State, queue []int, crash int) {
	if len(queue) == 0 {
		return
	}
	write := func() ([]api.Do, api.Wal, bool) {
		var l []api.Do
		w := v.w
		for at, n := range queue {
			sum, _ := pend.Sum(s.Sessions[n].Pend)
			puts, x, e := wal.Add(w, api.Record{Commit: s.Clock + at + 1, Writes: sum})
			if e != api.OK {
				return nil, v.w, false
			}
			l, w = append(l, puts...), x
		}
		return append(l, api.Do{Sync: true}), w, true
	}
	l, w, fits := write()
	if !fits {
		m, _ := order.Map(s)
		v.save(m, crash)
		l, w, _ = write()
	}
	if !v.isOff {
		v.steps(l, crash)
		v.w = w
	}
}

// queueBehind are those that a pick flushes; n was picked in s, which led to x.
func queueBehind(s, x api.State, n int) []int {
	switch {
	case n == len(s.Programs):
		return s.Queue
	case len(s.Queue)+1 >= s.Config.Group && x.Sessions[n].Commit != 0 && s.Sessions[n].Commit == 0:
		return append(slices.Clone(s.Queue), n)
	}
	return nil
}

func (v *live) run(e api.Epoch) ([][]api.Answer, api.Errno) {
	s, err := step.New(v.c, e.Programs, v.m)
	if err != api.OK {
		return nil, err
	}
	v.done, v.isOff = nil, false
	if err := v.save(v.m, e.Crash); err != api.OK {
		return nil, err
	}
	var waiting []int
	for _, n := range e.Picks {
		if v.isOff {
			break
		}
		v.picks++
		if x, err := step.Pick(s, n); err == api.OK {
			waiting = queueBehind(s, x, n)
			v.lasts(s, waiting, e.Crash)
			s = x
		}
	}
	if !v.isOff {
		waiting = s.Queue
		v.lasts(s, waiting, e.Crash)
		s, _ = step.Flush(s)
	}
	v.m, _ = order.Map(s)
	if v.isOff {
		v.tape, _ = tape.Crash(v.tape, e.Keep...)
		v.restore()
	}
	return v.told(s, waiting), api.OK
}

func (v *live) told(s api.State, waiting []int) [][]api.Answer {
	l := make([][]api.Answer, len(s.Sessions))
	for n, x := range s.Sessions {
		l[n] = x.Answers
		if v.isOff && slices.Contains(waiting, n) {
			l[n] = x.Answers[:len(x.Answers)-1]
		}
	}
	return l
}

func (v *live) restore() {
	m, l, w, e := wal.Open(v.tape, v.c.Tables)
	x, f := wal.Map(m, l...)
	if e != api.OK || f != api.OK {
		panic(text(e, f))
	}
	v.m, v.w = x, w
}

// pair is an engine, and one of the words, to which the same is done.
type pair struct {
	g *engine.Engine
	v *live
}

func paired(t *testing.T, c api.Config, m [][]api.Row) pair {
	t.Helper()
	g, e := engine.New(c, m)
	v, f := newLive(c, m)
	if e != f || (g == nil) != (v == nil) {
		t.Fatalf("%v, %v: %v, not %v", c, m, e, f)
	}
	p := pair{g, v}
	if g != nil {
		p.alike(t)
	}
	return p
}

func sameTape(x, y api.Tape) bool {
	return slices.Equal(x.Sectors, y.Sectors) && slices.Equal(x.Waits, y.Waits)
}

func (p pair) alike(t *testing.T) {
	t.Helper()
	if m := p.g.Map(); text(m) != text(p.v.m) || len(m) != p.v.c.Tables {
		t.Fatalf("%v, not %v", m, p.v.m)
	}
	if n := p.g.Picks(); n != p.v.picks {
		t.Fatalf("%d picks, not %d", n, p.v.picks)
	}
	if !sameTape(p.g.Tape(), p.v.tape) {
		t.Fatalf("another tape")
	}
}

func (p pair) run(t *testing.T, e api.Epoch) [][]api.Answer {
	t.Helper()
	was := text(e)
	a, f := p.g.Run(e)
	b, h := p.v.run(e)
	if f != h || text(a) != text(b) || len(a) != len(b) || text(e) != was {
		t.Fatalf("%v: %v, %v, not %v, %v", e, f, a, h, b)
	}
	p.alike(t)
	return a
}

// restored is behind a Restore, and one more.
func (p pair) restored(t *testing.T) {
	t.Helper()
	for range 2 {
		if e := p.g.Restore(); e != api.OK {
			t.Fatalf("%v", e)
		}
		p.v.restore()
		p.alike(t)
	}
}
