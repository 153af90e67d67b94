package script_test

import (
	"maps"
	"slices"
	"strings"

	"quorum/alone"
	"quorum/api"
	"quorum/check"
)

// The words of the chapters, gone through anew, to hold Run against: what is there
// lies as one whole map for each commit, what takes room is marked beside them,
// each client holds its locks itself, and of a tape there is just how many steps
// are made on it. Whether a config, a map or a program may be is asked below.

// place is where a row lies.
type place struct {
	table int
	key   string
}

// content is a whole map.
type content map[place]string

func contentOf(m [][]api.Row) content {
	x := content{}
	for t, rows := range m {
		for _, r := range rows {
			x[place{t, r.Key}] = r.Value
		}
	}
	return x
}

func byPlaces(a, b place) int {
	if a.table != b.table {
		return a.table - b.table
	}
	return strings.Compare(a.key, b.key)
}

func (x content) tables(n int) [][]api.Row {
	m := make([][]api.Row, n)
	for _, at := range slices.SortedFunc(maps.Keys(x), byPlaces) {
		m[at.table] = append(m[at.table], api.Row{Key: at.key, Value: x[at]})
	}
	return m
}

// with is what is there behind writes.
func (x content) with(l []api.Write) content {
	x = maps.Clone(x)
	for _, w := range l {
		if at := (place{w.Table, w.Key}); w.Gone {
			delete(x, at)
		} else {
			x[at] = w.Value
		}
	}
	return x
}

// sectors is how many a record has that tells these rows, those that are gone, too.
func sectors(x content) int {
	bytes := 4 + 4
	for at, v := range x {
		bytes += 4 + len(at.key) + len(v)
	}
	return (bytes + 19) / 20
}

// lastOf are the places that are written, and what is last put there: "", if gone.
func lastOf(l []api.Write) content {
	x := content{}
	for _, w := range l {
		x[place{w.Table, w.Key}] = w.Value
	}
	return x
}

// mark is a version that takes room.
type mark struct {
	at     place
	commit int
	gone   bool
}

type client struct {
	api.Program
	number, status, age, sees, at int
	own                           []api.Write
	saved                         []int
	holds                         []api.Lock
	told                          []api.Answer
}

// world is an epoch under way.
type world struct {
	c     api.Config
	who   []*client
	there []content // at each commit, from 0 on
	marks []mark
	began int
	queue []*client
	left  int // steps till the power goes; below 0: it stays on
	isOff bool
	keep  []int
}

// byTheWords is what Run tells.
func byTheWords(c api.Config, m [][]api.Row, l []api.Epoch) (api.Report, api.Errno) {
	var picks []int
	for _, e := range l {
		picks = append(picks, e.Picks...)
	}
	now := contentOf(m)
	switch {
	case len(l) > 20 || len(picks) > 2000:
		return api.Report{}, api.ErrLimit
	case check.Config(c) != api.OK:
		return api.Report{}, api.ErrConfig
	case alone.Check(m) != api.OK || len(m) != c.Tables:
		return api.Report{}, api.ErrForm
	case len(now) > 64:
		return api.Report{}, api.ErrFull
	case len(now) > c.Versions:
		return api.Report{}, api.ErrLimit
	}
	r := api.Report{Answers: make([][][]api.Answer, len(l))}
	for i, e := range l {
		if check.Programs(c, e.Programs) == api.OK {
			w := newWorld(c, now, e)
			w.run(e.Picks)
			now = w.last()
			for _, x := range w.who {
				r.Answers[i] = append(r.Answers[i], x.told)
			}
		}
		r.Maps = append(r.Maps, now.tables(c.Tables))
	}
	return r, api.OK
}

func newWorld(c api.Config, now content, e api.Epoch) *world {
	w := &world{c: c, there: []content{{}}, left: max(e.Crash, -1), keep: e.Keep}
	for n, g := range e.Programs {
		w.who = append(w.who, &client{Program: g, number: n})
	}
	if len(now) > 0 {
		w.there = append(w.there, now)
	}
	for at := range now {
		w.marks = append(w.marks, mark{at: at, commit: 1})
	}
	return w
}

func (w *world) clock() int { return len(w.there) - 1 }

func (w *world) last() content { return w.there[w.clock()] }

// run begins with the image: its sectors and a sync, sector 0 and a sync.
func (w *world) run(picks []int) {
	w.makes(sectors(w.last()) + 3)
	for _, n := range picks {
		switch {
		case w.isOff || n < 0 || n > len(w.who):
		case n == len(w.who):
			w.flush()
		default:
			w.pick(w.who[n])
		}
	}
	if !w.isOff {
		w.flush()
	}
}

// makes is how many of n steps are made.
func (w *world) makes(n int) int {
	if w.left < 0 {
		return n
	}
	n = min(n, w.left)
	w.left -= n
	w.isOff = w.left == 0
	return n
}

func (w *world) pick(x *client) {
	if x.status == api.IsWaiting || hasEnded(x) {
		return
	}
	if x.age == 0 {
		w.began++
		x.age, x.sees = w.began, w.clock()
	}
	o := x.next()
	if !x.Only && !w.gets(x, o) {
		return
	}
	x.status = api.IsReady
	m := w.last()
	if x.Only {
		m = w.there[x.sees]
	}
	was := len(x.own)
	a := x.does(m.with(x.own), o)
	if len(x.own) > was && w.taken() > w.c.Versions {
		w.abort(x, api.WhyRoom)
		return
	}
	x.told = append(x.told, a)
	x.at++
	if o.Kind == api.OpRollback {
		x.ends(api.IsUndone)
	} else if o.Kind == api.OpCommit {
		w.commits(x)
	}
}

func hasEnded(x *client) bool { return x.status == api.IsDone || x.status == api.IsUndone }

func (x *client) next() api.Op {
	if x.at == len(x.Ops) {
		return api.Op{Kind: api.OpRollback}
	}
	return x.Ops[x.at]
}

func (x *client) ends(status int) {
	x.status, x.own, x.saved, x.holds = status, nil, nil, nil
}

func (w *world) abort(x *client, why int) {
	x.told = append(x.told, api.Answer{Err: 9, N: why})
	x.ends(api.IsUndone)
}

func (w *world) taken() int {
	n := len(w.marks)
	for _, x := range w.who {
		n += len(x.own)
	}
	return n
}

// does is an op on what the client sees.
func (x *client) does(m content, o api.Op) api.Answer {
	value, is := m[place{o.Table, o.Key}]
	switch o.Kind {
	case api.OpHold, api.OpInsert, api.OpPut, api.OpDelete, api.OpTable:
		if x.Only {
			return api.Answer{Err: 6}
		}
	case api.OpScan:
		return api.Answer{Rows: m.within(o)}
	case api.OpSave, api.OpReturn, api.OpRelease:
		return x.marks(o)
	}
	switch o.Kind {
	case api.OpGet, api.OpHold:
		if !is {
			return api.Answer{Err: 3}
		}
		return api.Answer{Value: value}
	case api.OpInsert:
		if is {
			return api.Answer{Err: 4}
		}
		return x.writes(api.Write{Table: o.Table, Key: o.Key, Value: o.Value})
	case api.OpPut:
		return x.writes(api.Write{Table: o.Table, Key: o.Key, Value: o.Value})
	case api.OpDelete:
		if !is {
			return api.Answer{Err: 3}
		}
		return x.writes(api.Write{Table: o.Table, Key: o.Key, Gone: true})
	}
	return api.Answer{}
}

// writes has room for all ops of a program.
func (x *client) writes(w api.Write) api.Answer {
	x.own = append(x.own, w)
	return api.Answer{}
}

func (x *client) marks(o api.Op) api.Answer {
	switch {
	case o.Kind == api.OpSave && len(x.saved) == 6:
		return api.Answer{Err: 2}
	case o.Kind == api.OpSave:
		x.saved = append(x.saved, len(x.own))
		return api.Answer{N: len(x.saved) - 1}
	case o.N >= len(x.saved):
		return api.Answer{Err: 7}
	case o.Kind == api.OpReturn:
		x.own, x.saved = x.own[:x.saved[o.N]], x.saved[:o.N+1]
	default:
		x.saved = x.saved[:o.N]
	}
	return api.Answer{}
}

func (m content) within(o api.Op) []api.Row {
	l := slices.DeleteFunc(m.tables(api.MaxTables)[o.Table], func(r api.Row) bool {
		return r.Key < o.Keys.Low || !o.Keys.Top && r.Key >= o.Keys.High
	})
	if o.Back {
		slices.Reverse(l)
	}
	return l[:min(o.N, len(l))]
}

func (w *world) commits(x *client) {
	last := &x.told[len(x.told)-1]
	switch {
	case x.Only:
		x.ends(api.IsDone)
	case len(x.own) == 0:
		last.N = w.clock()
		x.ends(api.IsDone)
	default:
		x.status = api.IsWaiting
		w.queue = append(w.queue, x)
		last.N = w.clock() + len(w.queue)
		if len(w.queue) >= w.c.Group {
			w.flush()
		}
	}
}

func (w *world) flush() {
	for _, x := range w.queue[:w.lasting()] {
		for at := range lastOf(x.own) {
			_, is := content{}.with(x.own)[at]
			w.marks = append(w.marks, mark{at, w.clock() + 1, !is})
		}
		w.there = append(w.there, w.last().with(x.own))
	}
	for _, x := range w.queue {
		if w.isOff {
			x.told = x.told[:len(x.told)-1]
		}
		x.ends(api.IsDone)
	}
	w.queue = nil
	w.purge()
}

// lasting is of how many in the queue all that is put stays: of all of them, if it
// comes to the sync.
func (w *world) lasting() int {
	var sizes []int
	all := 0
	for _, x := range w.queue {
		sizes = append(sizes, sectors(lastOf(x.own)))
		all += sizes[len(sizes)-1]
	}
	if all == 0 {
		return 0
	}
	made := w.makes(all + 1)
	if made == all+1 {
		return len(sizes)
	}
	at := 0
	for n, size := range sizes {
		for range size {
			if at == made || len(w.keep) == 0 || w.keep[at%len(w.keep)]%2 == 0 {
				return n
			}
			at++
		}
	}
	return len(sizes)
}

// purge lets go what nobody sees any more.
func (w *world) purge() {
	least := w.clock()
	for _, x := range w.who {
		if x.Only && x.age > 0 && !hasEnded(x) {
			least = min(least, x.sees)
		}
	}
	w.marks = slices.DeleteFunc(slices.Clone(w.marks), func(v mark) bool {
		newer := func(x mark) bool { return x.at == v.at && x.commit > v.commit && x.commit <= least }
		return slices.ContainsFunc(w.marks, newer) || v.gone && v.commit <= least
	})
}

// needs are the locks of an op, in order.
func needs(x *client, o api.Op) []api.Lock {
	one := func(at place, mode int) api.Lock {
		return api.Lock{Owner: x.number, Table: at.table, Keys: to(at.key, at.key+"\x00"), Mode: mode}
	}
	switch o.Kind {
	case api.OpGet:
		return []api.Lock{one(place{o.Table, o.Key}, 1)}
	case api.OpHold, api.OpInsert, api.OpPut, api.OpDelete:
		return []api.Lock{one(place{o.Table, o.Key}, 2)}
	case api.OpScan:
		if o.Keys.Top || o.Keys.Low < o.Keys.High {
			return []api.Lock{{Owner: x.number, Table: o.Table, Keys: o.Keys, Mode: 1}}
		}
	case api.OpTable:
		return []api.Lock{{Owner: x.number, Table: o.Table, Keys: top(""), Mode: o.N}}
	}
	var l []api.Lock
	if o.Kind == api.OpCommit {
		for _, at := range slices.SortedFunc(maps.Keys(lastOf(x.own)), byPlaces) {
			l = append(l, one(at, 3))
		}
	}
	return l
}

// gets is whether a client has all its locks now; if not, it is blocked, or taken
// back.
func (w *world) gets(x *client, o api.Op) bool {
	for _, want := range needs(x, o) {
		if x.has(want) {
			continue
		}
		if !w.clears(x, want) {
			return false
		}
		held := 0
		for _, y := range w.who {
			held += len(y.holds)
		}
		mine := slices.IndexFunc(x.holds, func(l api.Lock) bool { return l.Table == want.Table && l.Keys == want.Keys })
		switch {
		case mine >= 0:
			x.holds[mine].Mode = max(x.holds[mine].Mode, want.Mode)
		case held >= w.c.Locks:
			w.abort(x, api.WhyLocks)
			return false
		default:
			x.holds = append(x.holds, want)
		}
	}
	return true
}

func (x *client) has(want api.Lock) bool {
	return slices.ContainsFunc(x.holds, func(l api.Lock) bool {
		return l.Table == want.Table && l.Mode >= want.Mode && l.Keys.Low <= want.Keys.Low && (l.Keys.Top || !want.Keys.Top && want.Keys.High <= l.Keys.High)
	})
}

// clash is whether two locks, of two clients, don't go together: only to read and
// to read, to read and to write do.
func clash(a, b api.Lock) bool {
	low := max(a.Keys.Low, b.Keys.Low)
	over := (a.Keys.Top || low < a.Keys.High) && (b.Keys.Top || low < b.Keys.High)
	return a.Table == b.Table && over && a.Mode+b.Mode > 1+2
}

// against are those in the way of a lock.
func (w *world) against(want api.Lock) []*client {
	return slices.DeleteFunc(slices.Clone(w.who), func(y *client) bool {
		return y.number == want.Owner || !slices.ContainsFunc(y.holds, func(l api.Lock) bool { return clash(l, want) })
	})
}

func (w *world) clears(x *client, want api.Lock) bool {
	for {
		others := w.against(want)
		if len(others) == 0 {
			return true
		}
		victim, why := w.youngest(x, want), api.WhyCircle
		if w.c.Policy == api.PolicyDie {
			victim, why = nil, api.WhyDie
			if slices.ContainsFunc(others, func(y *client) bool { return y.age < x.age }) {
				victim = x
			}
		}
		if victim == nil {
			x.status = api.IsBlocked
			return false
		}
		w.abort(victim, why)
		if victim == x {
			return false
		}
	}
}

// youngest is that of those that x leads to, and that lead back to it, where it
// waits for a lock; nil, if there are none.
func (w *world) youngest(x *client, want api.Lock) *client {
	waits := map[*client][]*client{x: w.against(want)}
	for _, y := range w.who {
		if y != x && y.status == api.IsBlocked {
			for _, l := range needs(y, y.next()) {
				if !y.has(l) {
					waits[y] = w.against(l)
					break
				}
			}
		}
	}
	leads := func(from, to *client) bool {
		seen := map[*client]bool{}
		l := slices.Clone(waits[from])
		for len(l) > 0 {
			y := l[0]
			l = l[1:]
			if !seen[y] {
				seen[y] = true
				l = append(l, waits[y]...)
			}
		}
		return seen[to]
	}
	var victim *client
	for _, y := range w.who {
		if leads(x, y) && leads(y, x) && (victim == nil || y.age > victim.age) {
			victim = y
		}
	}
	return victim
}
