package step_test

import (
	"fmt"
	"slices"
	"strings"

	"quorum/api"
)

// The words of the chapter, and of those that it leans on, gone through anew, to
// hold the calls against: versions lie in one heap, locks are gone through one by
// one, who waits for whom is laid in a square.

// stamp is a version in the heap.
type stamp struct {
	table, commit int
	key, value    string
	gone          bool
}

// runner is a session.
type runner struct {
	status, at, age, snap, commit int
	writes                        []api.Write
	marks                         []int
	answers                       []api.Answer
}

type world struct {
	c           api.Config
	programs    []api.Program
	who         []*runner
	heap        []stamp
	locks       []api.Lock
	clock, ages int
	queue       []int
	log         []api.Record
}

func newWorld(c api.Config, l []api.Program, m [][]api.Row) *world {
	w := &world{c: c, programs: l}
	for range l {
		w.who = append(w.who, &runner{})
	}
	var all []api.Write
	for t, rows := range m {
		for _, r := range rows {
			w.heap = append(w.heap, stamp{table: t, commit: 1, key: r.Key, value: r.Value})
			all = append(all, api.Write{Table: t, Key: r.Key, Value: r.Value})
		}
	}
	if len(all) > 0 {
		w.clock, w.log = 1, []api.Record{{Commit: 1, Writes: all}}
	}
	return w
}

// state is the world as the calls tell it.
func (w *world) state() api.State {
	s := api.State{Config: w.c, Programs: w.programs, Locks: w.locks, Clock: w.clock, Ages: w.ages, Queue: w.queue, Log: w.log}
	for _, x := range w.who {
		s.Sessions = append(s.Sessions, api.Session{Status: x.status, At: x.at, Age: x.age, Snap: x.snap, Pend: api.Pend{List: x.writes, Marks: x.marks}, Answers: x.answers, Commit: x.commit})
	}
	for t := range w.c.Tables {
		var rows []api.Chain
		for _, k := range w.keys(t) {
			c := api.Chain{Key: k}
			for _, v := range w.of(t, k) {
				c.List = append(c.List, api.Version{Commit: v.commit, Value: v.value, Gone: v.gone})
			}
			rows = append(rows, c)
		}
		s.Tables = append(s.Tables, api.Table{Rows: rows})
	}
	return s
}

func (w *world) keys(t int) []string {
	var l []string
	for _, v := range w.heap {
		if v.table == t && !slices.Contains(l, v.key) {
			l = append(l, v.key)
		}
	}
	slices.Sort(l)
	return l
}

// of are a key's versions, the newest first.
func (w *world) of(t int, k string) []stamp {
	var l []stamp
	for _, v := range w.heap {
		if v.table == t && v.key == k {
			l = append(l, v)
		}
	}
	slices.SortFunc(l, func(a, b stamp) int { return b.commit - a.commit })
	return l
}

// seen is what somebody sees of a table at commit n, own writes laid over.
func (w *world) seen(t, n int, own []api.Write) map[string]string {
	m := map[string]string{}
	for _, k := range w.keys(t) {
		for _, v := range w.of(t, k) {
			if v.commit <= n {
				if !v.gone {
					m[k] = v.value
				}
				break
			}
		}
	}
	for _, x := range own {
		if x.Table == t && x.Gone {
			delete(m, x.Key)
		} else if x.Table == t {
			m[x.Key] = x.Value
		}
	}
	return m
}

func (w *world) pick(n int) {
	if n == len(w.who) {
		w.flush()
		return
	}
	x := w.who[n]
	if x.status >= api.IsWaiting {
		return
	}
	if x.age == 0 {
		w.ages++
		x.age = w.ages
		if w.programs[n].Only {
			x.snap = w.clock
		}
	}
	o, behind := w.next(n)
	if w.programs[n].Only {
		w.tell(n, w.does(x, o, x.snap, true), behind)
		if o.Kind == api.OpCommit {
			w.stop(n, api.IsDone)
		}
	} else if !w.allLocks(n, o) {
		return
	} else {
		x.status = api.IsReady
		was := len(x.writes)
		a := w.does(x, o, w.clock, false)
		if len(x.writes) > was && w.used() > w.c.Versions {
			x.writes = x.writes[:was]
			w.abort(n, 4)
			return
		}
		w.tell(n, a, behind)
		if o.Kind == api.OpCommit {
			w.commits(n)
		}
	}
	if o.Kind == api.OpRollback {
		w.stop(n, api.IsUndone)
	}
}

// next is the op that comes, and whether it is behind the last one.
func (w *world) next(n int) (api.Op, bool) {
	if l := w.programs[n].Ops; w.who[n].at < len(l) {
		return l[w.who[n].at], false
	}
	return api.Op{Kind: api.OpRollback}, true
}

func (w *world) tell(n int, a api.Answer, behind bool) {
	w.who[n].answers = append(w.who[n].answers, a)
	if !behind {
		w.who[n].at++
	}
}

func (w *world) stop(n, status int) {
	x := w.who[n]
	x.status, x.writes, x.marks = status, nil, nil
	w.locks = slices.DeleteFunc(slices.Clone(w.locks), func(l api.Lock) bool { return l.Owner == n })
}

func (w *world) abort(n, why int) {
	w.who[n].answers = append(w.who[n].answers, api.Answer{Err: int(api.ErrAbort), N: why})
	w.stop(n, api.IsUndone)
}

func (w *world) used() int {
	n := len(w.heap)
	for _, x := range w.who {
		n += len(x.writes)
	}
	return n
}

// does is an op on what is seen at commit n.
func (w *world) does(x *runner, o api.Op, n int, only bool) api.Answer {
	if only && slices.Contains([]int{api.OpHold, api.OpInsert, api.OpPut, api.OpDelete, api.OpTable}, o.Kind) {
		return api.Answer{Err: int(api.ErrOnly)}
	}
	m := w.seen(o.Table, n, x.writes)
	v, is := m[o.Key]
	switch o.Kind {
	case api.OpGet, api.OpHold:
		if !is {
			return api.Answer{Err: int(api.ErrNone)}
		}
		return api.Answer{Value: v}
	case api.OpInsert, api.OpPut:
		if is && o.Kind == api.OpInsert {
			return api.Answer{Err: int(api.ErrThere)}
		}
		return x.writing(api.Write{Table: o.Table, Key: o.Key, Value: o.Value})
	case api.OpDelete:
		if !is {
			return api.Answer{Err: int(api.ErrNone)}
		}
		return x.writing(api.Write{Table: o.Table, Key: o.Key, Gone: true})
	case api.OpScan:
		return api.Answer{Rows: rowsIn(m, o)}
	}
	return x.marking(o)
}

func (x *runner) writing(w api.Write) api.Answer {
	if len(x.writes) == 12 {
		return api.Answer{Err: int(api.ErrLimit)}
	}
	x.writes = append(slices.Clone(x.writes), w)
	return api.Answer{}
}

func (x *runner) marking(o api.Op) api.Answer {
	switch o.Kind {
	case api.OpSave:
		if len(x.marks) == 6 {
			return api.Answer{Err: int(api.ErrLimit)}
		}
		x.marks = append(slices.Clone(x.marks), len(x.writes))
		return api.Answer{N: len(x.marks) - 1}
	case api.OpReturn, api.OpRelease:
		if o.N >= len(x.marks) {
			return api.Answer{Err: int(api.ErrMark)}
		}
		if o.Kind == api.OpReturn {
			x.writes, x.marks = x.writes[:x.marks[o.N]], x.marks[:o.N+1]
		} else {
			x.marks = x.marks[:o.N]
		}
	}
	return api.Answer{}
}

func rowsIn(m map[string]string, o api.Op) []api.Row {
	var l []api.Row
	for k, v := range m {
		if k >= o.Keys.Low && (o.Keys.Top || k < o.Keys.High) {
			l = append(l, api.Row{Key: k, Value: v})
		}
	}
	slices.SortFunc(l, func(a, b api.Row) int {
		if o.Back {
			return strings.Compare(b.Key, a.Key)
		}
		return strings.Compare(a.Key, b.Key)
	})
	return l[:min(o.N, len(l))]
}

// sumOf are the last writes, by tables and keys.
func sumOf(l []api.Write) []api.Write {
	var sum []api.Write
	for at, x := range l {
		if !slices.ContainsFunc(l[at+1:], func(y api.Write) bool { return y.Table == x.Table && y.Key == x.Key }) {
			sum = append(sum, x)
		}
	}
	slices.SortFunc(sum, func(a, b api.Write) int {
		if a.Table != b.Table {
			return a.Table - b.Table
		}
		return strings.Compare(a.Key, b.Key)
	})
	return sum
}

func (w *world) commits(n int) {
	x := w.who[n]
	last := &x.answers[len(x.answers)-1]
	if len(x.writes) == 0 {
		last.N = w.clock
		w.stop(n, api.IsDone)
		return
	}
	x.status, x.commit = api.IsWaiting, w.clock+len(w.queue)+1
	last.N = x.commit
	w.queue = append(slices.Clone(w.queue), n)
	w.log = append(slices.Clone(w.log), api.Record{Commit: x.commit, Writes: sumOf(x.writes)})
	if len(w.queue) >= w.c.Group {
		w.flush()
	}
}

func (w *world) flush() {
	for _, n := range w.queue {
		x := w.who[n]
		for _, y := range sumOf(x.writes) {
			w.heap = append(w.heap, stamp{table: y.Table, commit: x.commit, key: y.Key, value: y.Value, gone: y.Gone})
		}
		w.clock = x.commit
		w.stop(n, api.IsDone)
	}
	w.queue = nil
	least := w.clock
	for n, x := range w.who {
		if w.programs[n].Only && x.age > 0 && x.status < api.IsDone && x.snap < least {
			least = x.snap
		}
	}
	w.heap = w.needed(least)
}

// needed are the versions that somebody sees who sees commit n, or a later one.
func (w *world) needed(n int) []stamp {
	var l []stamp
	for _, v := range w.heap {
		older := slices.ContainsFunc(w.heap, func(x stamp) bool {
			return x.table == v.table && x.key == v.key && x.commit > v.commit && x.commit <= n
		})
		if !older && !(v.gone && v.commit <= n) {
			l = append(l, v)
		}
	}
	return l
}

// needs are the locks of an op, in order.
func needs(o api.Op, own []api.Write, n int) []api.Lock {
	one := func(t int, k string, mode int) api.Lock {
		return api.Lock{Owner: n, Table: t, Keys: api.Range{Low: k, High: k + "\x00"}, Mode: mode}
	}
	switch o.Kind {
	case api.OpGet:
		return []api.Lock{one(o.Table, o.Key, api.ModeR)}
	case api.OpHold, api.OpInsert, api.OpPut, api.OpDelete:
		return []api.Lock{one(o.Table, o.Key, api.ModeW)}
	case api.OpScan:
		if o.Keys.Top || o.Keys.Low < o.Keys.High {
			return []api.Lock{{Owner: n, Table: o.Table, Keys: o.Keys, Mode: api.ModeR}}
		}
	case api.OpTable:
		return []api.Lock{{Owner: n, Table: o.Table, Keys: api.Range{Top: true}, Mode: o.N}}
	case api.OpCommit:
		var l []api.Lock
		for _, x := range sumOf(own) {
			l = append(l, one(x.Table, x.Key, api.ModeC))
		}
		return l
	}
	return nil
}

func (w *world) covered(x api.Lock) bool {
	return slices.ContainsFunc(w.locks, func(l api.Lock) bool {
		ends := l.Keys.Top || !x.Keys.Top && x.Keys.High <= l.Keys.High
		return l.Owner == x.Owner && l.Table == x.Table && l.Keys.Low <= x.Keys.Low && ends && l.Mode >= x.Mode
	})
}

// against are those in the way of a lock, rising.
func (w *world) against(x api.Lock) []int {
	var l []int
	for n := range w.who {
		if n != x.Owner && slices.ContainsFunc(w.locks, func(y api.Lock) bool { return y.Owner == n && clash(x, y) }) {
			l = append(l, n)
		}
	}
	return l
}

func clash(x, y api.Lock) bool {
	apart := !x.Keys.Top && x.Keys.High <= y.Keys.Low || !y.Keys.Top && y.Keys.High <= x.Keys.Low || none(x.Keys) || none(y.Keys)
	goes := x.Mode == api.ModeR && y.Mode != api.ModeC || y.Mode == api.ModeR && x.Mode != api.ModeC
	return x.Table == y.Table && !apart && !goes
}

func none(r api.Range) bool { return !r.Top && r.Low == r.High }

func (w *world) allLocks(n int, o api.Op) bool {
	for _, x := range needs(o, w.who[n].writes, n) {
		if w.covered(x) {
			continue
		}
		if !w.clear(n, x) {
			return false
		}
		mine := slices.IndexFunc(w.locks, func(l api.Lock) bool { return l.Owner == n && l.Table == x.Table && l.Keys == x.Keys })
		switch {
		case mine >= 0:
			w.locks = slices.Clone(w.locks)
			w.locks[mine].Mode = max(w.locks[mine].Mode, x.Mode)
		case len(w.locks) >= w.c.Locks:
			w.abort(n, 3)
			return false
		default:
			w.locks = append(slices.Clone(w.locks), x)
		}
	}
	return true
}

func (w *world) clear(n int, x api.Lock) bool {
	for len(w.against(x)) > 0 {
		if w.c.Policy == api.PolicyDie {
			if slices.ContainsFunc(w.against(x), func(o int) bool { return w.who[o].age < w.who[n].age }) {
				w.abort(n, 2)
			} else {
				w.who[n].status = api.IsBlocked
			}
			return false
		}
		round := w.round(n, x)
		if len(round) == 0 {
			w.who[n].status = api.IsBlocked
			return false
		}
		young := round[0]
		for _, o := range round {
			if w.who[o].age > w.who[young].age {
				young = o
			}
		}
		w.abort(young, 1)
		if young == n {
			return false
		}
	}
	return true
}

// round is the circle that leads back to n, who waits for x.
func (w *world) round(n int, x api.Lock) []int {
	var to [6][6]bool
	for i, y := range w.who {
		want := []api.Lock{x}
		if i != n {
			o, _ := w.next(i)
			want = slices.DeleteFunc(needs(o, y.writes, i), w.covered)
		}
		if (i == n || y.status == api.IsBlocked) && len(want) > 0 {
			for _, o := range w.against(want[0]) {
				to[i][o] = true
			}
		}
	}
	for k := range 6 {
		for i := range 6 {
			for j := range 6 {
				to[i][j] = to[i][j] || to[i][k] && to[k][j]
			}
		}
	}
	var l []int
	for o := range w.who {
		if to[n][o] && to[o][n] {
			l = append(l, o)
		}
	}
	return l
}

// text is all of something, a nil list as an empty one.
func text(x ...any) string { return fmt.Sprint(x...) }

// worldOf is the world of a state that may be.
func worldOf(s api.State) *world {
	w := &world{c: s.Config, programs: s.Programs, locks: s.Locks, clock: s.Clock, ages: s.Ages, queue: s.Queue, log: s.Log}
	for _, x := range s.Sessions {
		w.who = append(w.who, &runner{status: x.Status, at: x.At, age: x.Age, snap: x.Snap, commit: x.Commit, writes: x.Pend.List, marks: x.Pend.Marks, answers: slices.Clone(x.Answers)})
	}
	for t, rows := range s.Tables {
		for _, c := range rows.Rows {
			for _, v := range c.List {
				w.heap = append(w.heap, stamp{table: t, commit: v.Commit, key: c.Key, value: v.Value, gone: v.Gone})
			}
		}
	}
	return w
}

// mapAt is what the records of a log leave, up to commit n.
func mapAt(log []api.Record, tables, n int) [][]api.Row {
	w := &world{}
	for _, r := range log[:n] {
		for _, x := range r.Writes {
			w.heap = append(w.heap, stamp{table: x.Table, commit: r.Commit, key: x.Key, value: x.Value, gone: x.Gone})
		}
	}
	m := make([][]api.Row, tables)
	for t := range m {
		m[t] = rowsIn(w.seen(t, n, nil), api.Op{Keys: api.Range{Top: true}, N: api.MaxNum})
	}
	return m
}
