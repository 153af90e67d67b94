package engine

import (
	"slices"
	"strings"

	"quorum/api"
	"quorum/step"
	"quorum/tape"
	"quorum/wal"
)

// disk is what lasts: a tape, where its log stands, and the map that lies there.
type disk struct {
	tape api.Tape
	log  api.Wal
	now  [][]api.Row
}

// restore asks the tape alone.
func (d *disk) restore() api.Errno {
	m, l, w, e := wal.Open(d.tape, len(d.now))
	if e != api.OK {
		return e
	}
	m, e = wal.Map(m, l...)
	if e != api.OK {
		return e
	}
	d.log, d.now = w, m
	return api.OK
}

// course is a Run under way.
type course struct {
	disk
	state api.State
	clock int // the last commit that was told to last
	left  int // how many steps are made till the power goes; below 0: it stays on
	isOff bool
	picks int
}

func (c *course) run(e api.Epoch) api.Errno {
	if err := c.save(); err != api.OK {
		return err
	}
	if err := c.pickAll(e.Picks); err != api.OK {
		return err
	}
	if !c.isOff {
		return api.OK
	}
	c.tape, _ = tape.Crash(c.tape, e.Keep...)
	return c.restore()
}

func (c *course) save() api.Errno {
	steps, w, e := wal.Save(c.log, c.now)
	if e != api.OK {
		return e
	}
	c.log = w
	c.play(steps)
	return api.OK
}

func (c *course) pickAll(picks []int) api.Errno {
	for _, n := range picks {
		if c.isOff {
			return api.OK
		}
		c.picks++
		next, e := step.Pick(c.state, n)
		if e != api.OK {
			continue
		}
		if e := c.goOn(next); e != api.OK {
			return e
		}
	}
	return c.flush()
}

func (c *course) flush() api.Errno {
	if c.isOff {
		return api.OK
	}
	next, e := step.Flush(c.state)
	if e != api.OK {
		return e
	}
	return c.goOn(next)
}

// goOn takes what a pick leads to. That a pick flushes, be it by Group, is seen by
// what it leads to alone, where the records of what was in the queue stand in the
// log: so they come to the tape now. Where the power goes meanwhile, only what the
// sessions were told counts of it, and no flush changes that.
func (c *course) goOn(next api.State) api.Errno {
	c.state = next
	flushed := next.Log[c.clock:next.Clock]
	if len(flushed) == 0 {
		return api.OK
	}
	steps, w, e := lasting(c.log, c.now, flushed)
	if e != api.OK {
		return e
	}
	if c.play(steps); c.isOff {
		return api.OK
	}
	c.log, c.clock = w, next.Clock
	c.now, e = wal.Map(c.now, flushed...)
	return e
}

// play makes steps up to where the power goes; behind the last of these it goes,
// too, since whoever asked for them didn't go on.
func (c *course) play(l []api.Do) {
	c.tape, _ = tape.Play(c.tape, c.left, l...)
	if c.left < 0 {
		return
	}
	c.isOff = c.left <= len(l)
	c.left -= min(c.left, len(l))
}

// answers are what the sessions were told, in memory of their own. Whoever's
// commit doesn't last yet was not told of it.
func (c *course) answers() [][]api.Answer {
	l := make([][]api.Answer, len(c.state.Sessions))
	for n, x := range c.state.Sessions {
		told := x.Answers
		if x.Commit > c.clock {
			told = told[:len(told)-1]
		}
		l[n] = answersCopied(told)
	}
	return l
}

func answersCopied(l []api.Answer) []api.Answer {
	l = slices.Clone(l)
	for at, a := range l {
		l[at].Value = strings.Clone(a.Value)
		l[at].Rows = slices.Clone(a.Rows)
		for which, r := range a.Rows {
			l[at].Rows[which] = api.Row{Key: strings.Clone(r.Key), Value: strings.Clone(r.Value)}
		}
	}
	return l
}

// lasting are the steps by which records last, and where the log stands behind
// them. Where they do not all fit, map m, which is all that lasts ahead of them,
// comes to the tape anew, and makes room.
func lasting(w api.Wal, m [][]api.Row, l []api.Record) ([]api.Do, api.Wal, api.Errno) {
	steps, x, e := added(w, l)
	if e == api.OK {
		return steps, x, api.OK
	}
	saved, w, e := wal.Save(w, m)
	if e != api.OK {
		return nil, api.Wal{}, e
	}
	steps, x, e = added(w, l)
	return slices.Concat(saved, steps), x, e
}

func added(w api.Wal, l []api.Record) ([]api.Do, api.Wal, api.Errno) {
	var steps []api.Do
	for _, r := range l {
		puts, x, e := wal.Add(w, r)
		if e != api.OK {
			return nil, api.Wal{}, e
		}
		steps, w = append(steps, puts...), x
	}
	return append(steps, api.Do{Sync: true}), w, api.OK
}
