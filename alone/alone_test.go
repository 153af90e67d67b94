package alone_test

import (
	"maps"
	"math"
	"slices"
	"strconv"
	"strings"
	"testing"

	"quorum/alone"
	"quorum/api"
	"quorum/key"
	"quorum/pend"
	"quorum/plan"
	"quorum/view"
)

func get(t int, k string) api.Op { return api.Op{Kind: api.OpGet, Table: t, Key: k} }

func hold(t int, k string) api.Op { return api.Op{Kind: api.OpHold, Table: t, Key: k} }

func insert(t int, k, v string) api.Op { return api.Op{Kind: api.OpInsert, Table: t, Key: k, Value: v} }

func put(t int, k, v string) api.Op { return api.Op{Kind: api.OpPut, Table: t, Key: k, Value: v} }

func cut(t int, k string) api.Op { return api.Op{Kind: api.OpDelete, Table: t, Key: k} }

func scan(t int, r api.Range, n int) api.Op {
	return api.Op{Kind: api.OpScan, Table: t, Keys: r, N: n}
}

func down(t int, r api.Range, n int) api.Op {
	return api.Op{Kind: api.OpScan, Table: t, Keys: r, N: n, Back: true}
}

func whole(t, mode int) api.Op { return api.Op{Kind: api.OpTable, Table: t, N: mode} }

func save() api.Op { return api.Op{Kind: api.OpSave} }

func back(n int) api.Op { return api.Op{Kind: api.OpReturn, N: n} }

func release(n int) api.Op { return api.Op{Kind: api.OpRelease, N: n} }

func commit() api.Op { return api.Op{Kind: api.OpCommit} }

func rollback() api.Op { return api.Op{Kind: api.OpRollback} }

func prog(l ...api.Op) api.Program { return api.Program{Ops: l} }

func reads(l ...api.Op) api.Program { return api.Program{Only: true, Ops: l} }

func row(k, v string) api.Row { return api.Row{Key: k, Value: v} }

func wrote(t int, k, v string) api.Write { return api.Write{Table: t, Key: k, Value: v} }

func gone(t int, k string) api.Write { return api.Write{Table: t, Key: k, Gone: true} }

func own(l ...api.Write) api.Pend { return api.Pend{List: l} }

func failed(e api.Errno) api.Answer { return api.Answer{Err: int(e)} }

func value(v string) api.Answer { return api.Answer{Value: v} }

func number(n int) api.Answer { return api.Answer{N: n} }

func found(l ...api.Row) api.Answer { return api.Answer{Rows: l} }

func nothing() api.Answer { return api.Answer{} }

func to(low, high string) api.Range { return api.Range{Low: low, High: high} }

func top(low string) api.Range { return api.Range{Low: low, Top: true} }

func long(n int) string { return strings.Repeat("x", n) }

// num is a key: they rise as n does.
func num(n int) string { return "k" + strconv.Itoa(10000+n) }

// some is a map of as many tables as may be: one with rows, an empty value among
// them, one without, and one that has a key of the first one, and the shortest
// and longest keys and values.
func some() [][]api.Row {
	return [][]api.Row{
		{row("b", "1"), row("d", ""), row("d\x00", "2"), row("f", "3"), row("h", "4")},
		nil,
		{row("\x00", ""), row("b", "other"), row(long(api.MaxKey), long(api.MaxValue)), row("\xff", "last")},
	}
}

// mine has writes of keys that are committed and that are not, ahead of all
// rows, between and behind all, keys that were written twice, also Gone first or
// last, and in two tables, and marks.
func mine() api.Pend {
	return api.Pend{List: []api.Write{
		wrote(0, "b", "old"), gone(0, "d"), wrote(0, "a", "ahead"), wrote(2, "b", "two"), gone(0, "b"), wrote(0, "z", "behind"),
		wrote(1, "b", ""), wrote(0, "e", "between"), gone(0, "e"), gone(2, "b"), wrote(0, "b", "own"),
	}, Marks: []int{0, 3, 3, 11}}
}

// many has n rows, with room for keys between them.
func many(n int) []api.Row {
	var l []api.Row
	for i := range n {
		l = append(l, row(num(10*i), strconv.Itoa(i)))
	}
	return l
}

// small are such maps as are asked for everything.
func small() [][][]api.Row {
	return [][][]api.Row{
		{nil}, {{row("b", "1")}}, {{row("b", "1"), row("c", "2")}, {row("b", "")}}, {nil, nil, nil}, {nil, {row("a", "1"), row("b", "2"), row("c", "3")}}, some(), some()[:2], {some()[2]},
	}
}

// sizes are at, below and above as many rows as a table has room for, and twice
// as many.
func sizes() []int {
	return []int{0, 1, 2, api.MaxRooms - 1, api.MaxRooms, api.MaxRooms + 1, 2*api.MaxRooms - 1, 2 * api.MaxRooms, 2*api.MaxRooms + 1, 200, 1000}
}

// pends are what may be pending.
func pends() []api.Pend {
	return []api.Pend{
		{}, {Marks: []int{0}}, {Marks: make([]int, api.MaxMarks)}, own(wrote(0, "b", "x")), own(gone(0, "b")), own(gone(0, "b"), wrote(0, "b", "y")), own(wrote(0, "b", "y"), gone(0, "b")),
		own(wrote(0, "a", ""), wrote(0, "c", "x"), gone(0, "h"), wrote(0, "i", "z")), own(wrote(1, "a", "x"), gone(1, "b")), own(wrote(2, "b", "x"), gone(2, "\xff")), mine(), filled(api.MaxOps - 1), filled(api.MaxOps),
		{List: mine().List, Marks: []int{1, 2, 3, 4, 5, 6}}, {List: filled(api.MaxOps).List, Marks: []int{0, 0, 5, 12, 12}},
	}
}

// filled has n writes of keys of some.
func filled(n int) api.Pend {
	keys := []string{"b", "a", "d", "z", "b"}
	var p api.Pend
	for i := range n {
		w := wrote(i%2, keys[i%len(keys)], strconv.Itoa(i))
		if i%3 == 2 {
			w = gone(w.Table, w.Key)
		}
		p.List = append(p.List, w)
	}
	return p
}

// ops are of each kind, and of each one of so many tables.
func ops(tables int) []api.Op {
	all := []api.Op{save(), commit(), rollback()}
	for n := range api.MaxMarks {
		all = append(all, back(n), release(n))
	}
	for t := range tables {
		for _, k := range []string{"\x00", "a", "b", "d", "d\x00", "e", "f", "z", long(api.MaxKey)} {
			all = append(all, get(t, k), hold(t, k), cut(t, k))
			for _, v := range []string{"", "v", long(api.MaxValue)} {
				all = append(all, insert(t, k, v), put(t, k, v))
			}
		}
		for _, r := range ranges() {
			for _, n := range []int{0, 1, 2, 5, api.MaxNum} {
				all = append(all, scan(t, r, n), down(t, r, n))
			}
		}
		all = append(all, whole(t, api.ModeR), whole(t, api.ModeW))
	}
	return all
}

func ranges() []api.Range {
	return []api.Range{key.All(), to("b", "b\x00"), to("a", "e"), to("d\x00", "z"), top("d"), top("z"), to("b", "b"), {}, top(long(api.MaxKey + 1)), to("", strings.Repeat("\xff", api.MaxKey+1))}
}

// badMaps may not be: by one of their tables, or since they are too many.
func badMaps() [][][]api.Row {
	l := [][][]api.Row{make([][]api.Row, api.MaxTables+1), append(some(), nil), append(some(), some()...)}
	for _, x := range [][]api.Row{
		{row("b", ""), row("a", "")}, {row("b", ""), row("b", "")}, {row("b", "1"), row("b", "2")}, {row("a", ""), row("c", ""), row("b", "")}, {row("a\x00", ""), row("a", "")},
		{row("", "")}, {row("", "v"), row("a", "v")}, {row(long(api.MaxKey+1), "")}, {row("a", ""), row(long(api.MaxKey+1), "")}, {row("a", long(api.MaxValue+1))}, {row("a", ""), row("b", long(100))}, append(many(200), row("a", "")), append(many(200), row("l", long(api.MaxValue+1))),
	} {
		l = append(l, [][]api.Row{x}, [][]api.Row{x, nil}, [][]api.Row{nil, x}, [][]api.Row{some()[0], nil, x})
	}
	return l
}

// badPends may not be pending.
func badPends() []api.Pend {
	return []api.Pend{
		filled(api.MaxOps + 1), {Marks: []int{1}}, {Marks: []int{-1}}, {Marks: make([]int, api.MaxMarks+1)}, {List: mine().List, Marks: []int{3, 2}}, {List: mine().List, Marks: []int{12}},
		own(wrote(-1, "a", "v")), own(wrote(api.MaxTables, "a", "v")), own(wrote(0, "", "v")), own(gone(0, long(api.MaxKey+1))), own(wrote(0, "a", long(api.MaxValue+1))), own(api.Write{Key: "a", Value: "v", Gone: true}), own(wrote(0, "a", "v"), wrote(0, "", "")),
	}
}

// badOps may not be of so many tables.
func badOps(tables int) []api.Op {
	all := []api.Op{
		{}, {Kind: -1}, {Kind: api.OpRollback + 1}, {Kind: math.MaxInt}, {Key: "b"}, {Kind: api.OpSave, N: 1}, {Kind: api.OpCommit, N: 1}, {Kind: api.OpRollback, Key: "b"}, {Kind: api.OpCommit, Table: 1}, {Kind: api.OpGet, Key: "b", Value: "v"}, {Kind: api.OpDelete, Key: "b", Value: "v"}, {Kind: api.OpPut, Key: "b", N: 1}, {Kind: api.OpInsert, Key: "b", Back: true}, {Kind: api.OpHold, Key: "b", Keys: key.All()},
		back(-1), back(api.MaxMarks), release(-1), release(api.MaxMarks), release(math.MaxInt),
	}
	for _, t := range []int{-1, tables, tables + 1, api.MaxTables, math.MaxInt, math.MinInt} {
		all = append(all, get(t, "b"), hold(t, "b"), insert(t, "b", "v"), put(t, "b", "v"), cut(t, "b"), scan(t, key.All(), 1), down(t, key.All(), 1), whole(t, api.ModeR))
	}
	for _, k := range []string{"", long(api.MaxKey + 1), long(100)} {
		all = append(all, get(0, k), hold(0, k), insert(0, k, "v"), put(0, k, "v"), cut(0, k))
	}
	for _, v := range []string{long(api.MaxValue + 1), long(100)} {
		all = append(all, insert(0, "b", v), put(0, "a", v))
	}
	for _, n := range []int{-1, math.MinInt, api.MaxNum + 1, math.MaxInt} {
		all = append(all, scan(0, key.All(), n), down(0, key.All(), n), whole(0, n))
	}
	for _, r := range []api.Range{to("b", "a"), {High: "b", Top: true}, top(long(api.MaxKey + 2)), to("", long(api.MaxKey+2))} {
		all = append(all, scan(0, r, 1), down(0, r, 0))
	}
	return append(all, whole(0, api.ModeNone), whole(0, api.ModeC))
}

// The words of the chapters, gone through op by op.

func mapMayBe(m [][]api.Row) bool {
	if len(m) > api.MaxTables {
		return false
	}
	for _, rows := range m {
		last := ""
		for _, r := range rows {
			if len(r.Key) < 1 || len(r.Key) > api.MaxKey || len(r.Value) > api.MaxValue || r.Key <= last {
				return false
			}
			last = r.Key
		}
	}
	return true
}

// store is each table's keys and values.
type store []map[string]string

func storeOf(m [][]api.Row, l []api.Write) store {
	var s store
	for t, rows := range m {
		s = append(s, map[string]string{})
		for _, r := range rows {
			s[t][r.Key] = r.Value
		}
	}
	for _, w := range l {
		if w.Table < len(s) {
			s.write(w)
		}
	}
	return s
}

func (s store) write(w api.Write) {
	if w.Gone {
		delete(s[w.Table], w.Key)
		return
	}
	s[w.Table][w.Key] = w.Value
}

func (s store) copied() store {
	var x store
	for _, t := range s {
		x = append(x, maps.Clone(t))
	}
	return x
}

func (s store) rows(t int, r api.Range) []api.Row {
	var l []api.Row
	for _, k := range slices.Sorted(maps.Keys(s[t])) {
		if k >= r.Low && (r.Top || k < r.High) {
			l = append(l, row(k, s[t][k]))
		}
	}
	return l
}

func (s store) asMap() [][]api.Row {
	var m [][]api.Row
	for t := range s {
		m = append(m, s.rows(t, key.All()))
	}
	return m
}

// reading is the answer to an op that changes nothing.
func (s store) reading(o api.Op) api.Answer {
	switch o.Kind {
	case api.OpGet, api.OpHold:
		if v, is := s[o.Table][o.Key]; is {
			return value(v)
		}
		return failed(api.ErrNone)
	case api.OpScan:
		l := s.rows(o.Table, o.Keys)
		if o.Back {
			slices.Reverse(l)
		}
		return found(l[:min(o.N, len(l))]...)
	}
	return nothing()
}

// mayWrite is why an op that writes may not, with so many writes behind it.
func (s store) mayWrite(o api.Op, writes int) api.Errno {
	_, is := s[o.Table][o.Key]
	switch {
	case o.Kind == api.OpInsert && is:
		return api.ErrThere
	case o.Kind == api.OpDelete && !is:
		return api.ErrNone
	case writes >= api.MaxOps:
		return api.ErrLimit
	}
	return api.OK
}

func mayNotReadAlone(o api.Op) bool {
	return slices.Contains([]int{api.OpHold, api.OpInsert, api.OpPut, api.OpDelete, api.OpTable}, o.Kind)
}

func writeOf(o api.Op) api.Write {
	return api.Write{Table: o.Table, Key: o.Key, Value: o.Value, Gone: o.Kind == api.OpDelete}
}

// doOf is of a map, own writes and an op that may be.
func doOf(m [][]api.Row, p api.Pend, o api.Op, only bool) (api.Pend, api.Answer) {
	s := storeOf(m, p.List)
	if only && mayNotReadAlone(o) {
		return p, failed(api.ErrOnly)
	}
	switch o.Kind {
	case api.OpInsert, api.OpPut, api.OpDelete:
		if e := s.mayWrite(o, len(p.List)); e != api.OK {
			return p, failed(e)
		}
		return api.Pend{List: append(slices.Clone(p.List), writeOf(o)), Marks: p.Marks}, nothing()
	case api.OpSave:
		if len(p.Marks) == api.MaxMarks {
			return p, failed(api.ErrLimit)
		}
		return api.Pend{List: p.List, Marks: append(slices.Clone(p.Marks), len(p.List))}, number(len(p.Marks))
	case api.OpReturn, api.OpRelease:
		if o.N >= len(p.Marks) {
			return p, failed(api.ErrMark)
		}
		if o.Kind == api.OpRelease {
			return api.Pend{List: p.List, Marks: p.Marks[:o.N]}, nothing()
		}
		return api.Pend{List: p.List[:p.Marks[o.N]], Marks: p.Marks[:o.N+1]}, nothing()
	}
	return p, s.reading(o)
}

// runner is a program that runs on a store, with a copy of it for each savepoint.
type runner struct {
	now    store
	writes int
	kept   []runner
}

func (x *runner) do(o api.Op, only bool) api.Answer {
	if only && mayNotReadAlone(o) {
		return failed(api.ErrOnly)
	}
	switch o.Kind {
	case api.OpInsert, api.OpPut, api.OpDelete:
		if e := x.now.mayWrite(o, x.writes); e != api.OK {
			return failed(e)
		}
		x.now.write(writeOf(o))
		x.writes++
		return nothing()
	case api.OpSave:
		if len(x.kept) == api.MaxMarks {
			return failed(api.ErrLimit)
		}
		x.kept = append(x.kept, runner{now: x.now.copied(), writes: x.writes})
		return number(len(x.kept) - 1)
	case api.OpReturn:
		if o.N >= len(x.kept) {
			return failed(api.ErrMark)
		}
		was := x.kept[o.N]
		x.now, x.writes, x.kept = was.now.copied(), was.writes, x.kept[:o.N+1]
		return nothing()
	case api.OpRelease:
		if o.N >= len(x.kept) {
			return failed(api.ErrMark)
		}
		x.kept = x.kept[:o.N]
		return nothing()
	}
	return x.now.reading(o)
}

// runOf is of a map and a program that may be.
func runOf(m [][]api.Row, g api.Program) ([]api.Answer, [][]api.Row, bool) {
	x := runner{now: storeOf(m, nil)}
	var all []api.Answer
	for _, o := range g.Ops {
		all = append(all, x.do(o, g.Only))
		if o.Kind == api.OpCommit {
			return all, x.now.asMap(), true
		}
		if o.Kind == api.OpRollback {
			break
		}
	}
	return all, m, false
}

func sameMap(a, b [][]api.Row) bool {
	return slices.EqualFunc(a, b, func(a, b []api.Row) bool { return slices.Equal(a, b) })
}

func sameAnswer(a, b api.Answer) bool {
	return a.Err == b.Err && a.Value == b.Value && a.N == b.N && slices.Equal(a.Rows, b.Rows)
}

func sameAnswers(a, b []api.Answer) bool { return slices.EqualFunc(a, b, sameAnswer) }

func samePend(a, b api.Pend) bool {
	return slices.Equal(a.List, b.List) && slices.Equal(a.Marks, b.Marks)
}

// ask holds Do against the words.
func ask(t *testing.T, m [][]api.Row, p api.Pend, o api.Op, only bool) {
	t.Helper()
	wantX, wantA := doOf(m, p, o, only)
	x, a, e := alone.Do(m, p, o, only)
	if e != api.OK || !samePend(x, wantX) || !sameAnswer(a, wantA) {
		t.Fatalf("%v, %v, %+v, alone %v: %v, %+v, %v, not %v, %+v", m, p, o, only, x, a, e, wantX, wantA)
	}
}

// askRun holds Run against the words.
func askRun(t *testing.T, m [][]api.Row, g api.Program) {
	t.Helper()
	wantA, wantX, wantDone := runOf(m, g)
	a, x, done, e := alone.Run(m, g)
	if e != api.OK || done != wantDone || !sameAnswers(a, wantA) || !sameMap(x, wantX) {
		t.Fatalf("%v, %+v: %+v, %v, %v, %v, not %+v, %v, %v", m, g, a, x, done, e, wantA, wantX, wantDone)
	}
}

// wantForm holds all calls to tell ErrForm and zero values.
func wantForm(t *testing.T, m [][]api.Row, g api.Program) {
	t.Helper()
	if a, x, done, e := alone.Run(m, g); e != api.ErrForm || len(a) > 0 || len(x) > 0 || done {
		t.Errorf("%v, %+v: Run: %v, %v, %v, %v", m, g, a, x, done, e)
	}
	for _, l := range [][]api.Program{{g}, {prog(), g}, {g, prog()}, {prog(), reads(), g, prog()}, {g, g}} {
		if a, x, e := alone.Many(m, l...); e != api.ErrForm || len(a) > 0 || len(x) > 0 {
			t.Errorf("%v, %+v: Many: %v, %v, %v", m, l, a, x, e)
		}
	}
}

func wantFormOfDo(t *testing.T, m [][]api.Row, p api.Pend, o api.Op) {
	t.Helper()
	for _, only := range []bool{false, true} {
		if x, a, e := alone.Do(m, p, o, only); e != api.ErrForm || !samePend(x, api.Pend{}) || !sameAnswer(a, nothing()) {
			t.Errorf("%v, %v, %+v: %v, %+v, %v", m, p, o, x, a, e)
		}
	}
}

// P13.1: Check

func TestMapsThatMayBe(t *testing.T) {
	l := append(small(), nil, [][]api.Row{}, make([][]api.Row, 1), make([][]api.Row, api.MaxTables), [][]api.Row{{}, nil, {}}, [][]api.Row{{row("a", ""), row("a\x00", ""), row("aa", ""), row("b", "")}})
	for _, n := range sizes() {
		l = append(l, [][]api.Row{many(n)}, [][]api.Row{nil, many(n), many(n)})
	}
	for i, m := range l {
		if e := alone.Check(m); e != api.OK || !mapMayBe(m) {
			t.Errorf("%d: %v: %v", i, m, e)
		}
	}
}

func TestMapsThatMayNotBe(t *testing.T) {
	for i, m := range badMaps() {
		if e := alone.Check(m); e != api.ErrForm || mapMayBe(m) {
			t.Errorf("%d: %v: %v", i, m, e)
		}
		for _, o := range append(ops(1), badOps(1)...) {
			wantFormOfDo(t, m, api.Pend{}, o)
		}
		for _, g := range []api.Program{prog(), reads(), prog(commit()), prog(put(0, "b", "v"), commit()), prog(rollback()), reads(scan(0, key.All(), 9))} {
			wantForm(t, m, g)
		}
		if a, x, e := alone.Many(m); e != api.ErrForm || len(a) > 0 || len(x) > 0 {
			t.Errorf("%d: Many of none: %v, %v, %v", i, a, x, e)
		}
	}
}

// Keys and values at the bounds, in the first row and in the last one.
func TestCheckAtTheBounds(t *testing.T) {
	for length, want := range map[int]api.Errno{0: api.ErrForm, 1: api.OK, api.MaxKey - 1: api.OK, api.MaxKey: api.OK, api.MaxKey + 1: api.ErrForm} {
		for _, m := range [][][]api.Row{{{row(long(length), "v")}}, {{row("a", ""), row(long(length), "v")}}, {nil, nil, {row(long(length), ""), row("z", "")}}} {
			if e := alone.Check(m); e != want {
				t.Errorf("key of %d bytes: %v: %v", length, m, e)
			}
		}
	}
	for length, want := range map[int]api.Errno{0: api.OK, 1: api.OK, api.MaxValue: api.OK, api.MaxValue + 1: api.ErrForm} {
		for _, m := range [][][]api.Row{{{row("a", long(length))}}, {nil, {row("a", ""), row("b", long(length))}}, {{row("a", long(length)), row("b", "")}, nil, nil}} {
			if e := alone.Check(m); e != want {
				t.Errorf("value of %d bytes: %v: %v", length, m, e)
			}
		}
	}
}

// P13.1: Do

func TestDoOfEachKind(t *testing.T) {
	for i, c := range []struct {
		o    api.Op
		a    api.Answer
		more []api.Write
	}{
		{get(0, "b"), value("own"), nil}, {get(0, "d"), failed(api.ErrNone), nil}, {get(0, "d\x00"), value("2"), nil}, {get(0, "a"), value("ahead"), nil}, {get(0, "e"), failed(api.ErrNone), nil}, {get(0, "x"), failed(api.ErrNone), nil}, {get(1, "b"), value(""), nil}, {get(1, "d"), failed(api.ErrNone), nil}, {get(2, "b"), failed(api.ErrNone), nil}, {get(2, long(api.MaxKey)), value(long(api.MaxValue)), nil}, {get(2, "\x00"), value(""), nil},
		{hold(0, "b"), value("own"), nil}, {hold(0, "h"), value("4"), nil}, {hold(0, "d"), failed(api.ErrNone), nil}, {hold(2, "a"), failed(api.ErrNone), nil},
		{insert(0, "b", "v"), failed(api.ErrThere), nil}, {insert(0, "h", "v"), failed(api.ErrThere), nil}, {insert(0, "z", "v"), failed(api.ErrThere), nil}, {insert(0, "d", "v"), nothing(), []api.Write{wrote(0, "d", "v")}}, {insert(0, "e", ""), nothing(), []api.Write{wrote(0, "e", "")}}, {insert(2, "b", "v"), nothing(), []api.Write{wrote(2, "b", "v")}}, {insert(1, "b", "v"), failed(api.ErrThere), nil}, {insert(1, "x", long(api.MaxValue)), nothing(), []api.Write{wrote(1, "x", long(api.MaxValue))}},
		{put(0, "b", "v"), nothing(), []api.Write{wrote(0, "b", "v")}}, {put(0, "d", ""), nothing(), []api.Write{wrote(0, "d", "")}}, {put(0, "x", "v"), nothing(), []api.Write{wrote(0, "x", "v")}}, {put(2, "\xff", "v"), nothing(), []api.Write{wrote(2, "\xff", "v")}},
		{cut(0, "b"), nothing(), []api.Write{gone(0, "b")}}, {cut(0, "h"), nothing(), []api.Write{gone(0, "h")}}, {cut(0, "a"), nothing(), []api.Write{gone(0, "a")}}, {cut(0, "d"), failed(api.ErrNone), nil}, {cut(0, "e"), failed(api.ErrNone), nil}, {cut(0, "x"), failed(api.ErrNone), nil}, {cut(1, "b"), nothing(), []api.Write{gone(1, "b")}}, {cut(1, "h"), failed(api.ErrNone), nil},
		{scan(0, key.All(), 9), found(row("a", "ahead"), row("b", "own"), row("d\x00", "2"), row("f", "3"), row("h", "4"), row("z", "behind")), nil}, {down(0, key.All(), 9), found(row("z", "behind"), row("h", "4"), row("f", "3"), row("d\x00", "2"), row("b", "own"), row("a", "ahead")), nil},
		{scan(0, key.All(), 6), found(row("a", "ahead"), row("b", "own"), row("d\x00", "2"), row("f", "3"), row("h", "4"), row("z", "behind")), nil}, {scan(0, key.All(), 2), found(row("a", "ahead"), row("b", "own")), nil}, {down(0, key.All(), 1), found(row("z", "behind")), nil}, {scan(0, key.All(), 0), nothing(), nil}, {down(0, key.All(), 0), nothing(), nil}, {scan(0, to("b", "f"), api.MaxNum), found(row("b", "own"), row("d\x00", "2")), nil}, {down(0, to("b", "f"), 1), found(row("d\x00", "2")), nil}, {scan(0, to("c", "d\x00"), 9), nothing(), nil}, {scan(0, to("b", "b"), 9), nothing(), nil}, {down(0, top("g"), 9), found(row("z", "behind"), row("h", "4")), nil}, {scan(1, key.All(), 9), found(row("b", "")), nil}, {scan(2, top("b"), 9), found(row(long(api.MaxKey), long(api.MaxValue)), row("\xff", "last")), nil},
		{whole(0, api.ModeR), nothing(), nil}, {whole(2, api.ModeW), nothing(), nil}, {commit(), nothing(), nil}, {rollback(), nothing(), nil},
	} {
		p := mine()
		x, a, e := alone.Do(some(), p, c.o, false)
		if want := (api.Pend{List: append(slices.Clone(p.List), c.more...), Marks: p.Marks}); e != api.OK || !sameAnswer(a, c.a) || !samePend(x, want) {
			t.Errorf("%d: %+v: %v, %+v, %v", i, c.o, x, a, e)
		}
		want := c.a
		if mayNotReadAlone(c.o) {
			want = failed(api.ErrOnly)
		}
		if x, a, e := alone.Do(some(), p, c.o, true); e != api.OK || !sameAnswer(a, want) || !samePend(x, p) {
			t.Errorf("%d: alone: %+v: %v, %+v, %v", i, c.o, x, a, e)
		}
	}
}

func TestDoWithMarks(t *testing.T) {
	p := api.Pend{List: mine().List, Marks: []int{0, 3, 3, 11}}
	with := func(writes int, marks ...int) api.Pend { return api.Pend{List: p.List[:writes], Marks: marks} }
	for i, c := range []struct {
		p    api.Pend
		o    api.Op
		want api.Pend
		a    api.Answer
	}{
		{api.Pend{}, save(), api.Pend{Marks: []int{0}}, number(0)}, {p, save(), with(11, 0, 3, 3, 11, 11), number(4)}, {with(11, 0, 0, 0, 0, 0), save(), with(11, 0, 0, 0, 0, 0, 11), number(5)}, {with(11, 0, 0, 0, 0, 0, 0), save(), with(11, 0, 0, 0, 0, 0, 0), failed(api.ErrLimit)},
		{p, back(3), p, nothing()}, {p, back(2), with(3, 0, 3, 3), nothing()}, {p, back(1), with(3, 0, 3), nothing()}, {p, back(0), with(0, 0), nothing()}, {p, back(4), p, failed(api.ErrMark)}, {p, back(5), p, failed(api.ErrMark)}, {api.Pend{}, back(0), api.Pend{}, failed(api.ErrMark)}, {with(11), back(0), with(11), failed(api.ErrMark)},
		{p, release(3), with(11, 0, 3, 3), nothing()}, {p, release(1), with(11, 0), nothing()}, {p, release(0), with(11), nothing()}, {p, release(4), p, failed(api.ErrMark)}, {p, release(5), p, failed(api.ErrMark)}, {with(11), release(0), with(11), failed(api.ErrMark)},
	} {
		for _, only := range []bool{false, true} {
			if x, a, e := alone.Do(some(), c.p, c.o, only); e != api.OK || !samePend(x, c.want) || !sameAnswer(a, c.a) {
				t.Errorf("%d: %+v, alone %v: %v, %+v, %v", i, c.o, only, x, a, e)
			}
		}
	}
}

// The example of the chapter.
func TestInsertTwice(t *testing.T) {
	p, a, e := alone.Do([][]api.Row{nil}, api.Pend{}, insert(0, "a", "1"), false)
	q, b, f := alone.Do([][]api.Row{nil}, p, insert(0, "a", "2"), false)
	if !sameAnswer(a, nothing()) || !sameAnswer(b, failed(api.ErrThere)) || e != api.OK || f != api.OK || !samePend(q, own(wrote(0, "a", "1"))) {
		t.Errorf("%+v, %+v, %v, %v, %v", a, b, e, f, q)
	}
}

// Of a key that was deleted, and inserted again: of one that is committed, and of
// one that is only written.
func TestDeleteAndInsertAgain(t *testing.T) {
	for _, k := range []string{"b", "new"} {
		p := own(wrote(0, k, "first"))
		for i, c := range []struct {
			o api.Op
			a api.Answer
		}{
			{insert(0, k, "v"), failed(api.ErrThere)}, {cut(0, k), nothing()}, {get(0, k), failed(api.ErrNone)}, {hold(0, k), failed(api.ErrNone)}, {cut(0, k), failed(api.ErrNone)}, {scan(0, to(k, k+"\x00"), 9), nothing()}, {insert(0, k, "again"), nothing()}, {get(0, k), value("again")}, {scan(0, to(k, k+"\x00"), 9), found(row(k, "again"))}, {insert(0, k, "v"), failed(api.ErrThere)}, {put(0, k, ""), nothing()}, {get(0, k), value("")},
		} {
			x, a, e := alone.Do(some(), p, c.o, false)
			if e != api.OK || !sameAnswer(a, c.a) {
				t.Errorf("%q, %d: %+v, %v", k, i, a, e)
			}
			p = x
		}
		if want := own(wrote(0, k, "first"), gone(0, k), wrote(0, k, "again"), wrote(0, k, "")); !samePend(p, want) {
			t.Errorf("%q: %v", k, p)
		}
	}
}

// As many own writes as may be: which error stands ahead of which.
func TestDoWithoutRoom(t *testing.T) {
	p := own(slices.Repeat([]api.Write{wrote(0, "b", "x"), gone(0, "d"), wrote(0, "new", "y")}, api.MaxOps/3)...)
	for i, c := range []struct {
		o api.Op
		e api.Errno
	}{
		{put(0, "b", "v"), api.ErrLimit}, {put(0, "x", "v"), api.ErrLimit}, {put(1, "b", ""), api.ErrLimit}, {insert(0, "x", "v"), api.ErrLimit}, {insert(0, "d", "v"), api.ErrLimit}, {insert(0, "b", "v"), api.ErrThere}, {insert(0, "h", "v"), api.ErrThere}, {insert(0, "new", "v"), api.ErrThere}, {cut(0, "b"), api.ErrLimit}, {cut(0, "new"), api.ErrLimit}, {cut(0, "h"), api.ErrLimit}, {cut(0, "d"), api.ErrNone}, {cut(0, "x"), api.ErrNone}, {save(), api.OK}, {get(0, "b"), api.OK}, {hold(0, "b"), api.OK}, {scan(0, key.All(), 9), api.OK}, {commit(), api.OK}, {rollback(), api.OK}, {whole(0, api.ModeW), api.OK},
	} {
		x, a, e := alone.Do(some(), p, c.o, false)
		if e != api.OK || a.Err != int(c.e) || !slices.Equal(x.List, p.List) || c.e != api.OK && !sameAnswer(a, failed(c.e)) {
			t.Errorf("%d: %+v: %v, %+v, %v", i, c.o, x, a, e)
		}
		less := own(p.List[:api.MaxOps-1]...)
		if _, a, e := alone.Do(some(), less, c.o, false); e != api.OK || a.Err == int(api.ErrLimit) {
			t.Errorf("%d, with room: %+v: %+v, %v", i, c.o, a, e)
		}
	}
}

// ErrOnly stands ahead of what else would be told.
func TestErrOnlyFirst(t *testing.T) {
	for _, p := range append(pends(), own(slices.Repeat([]api.Write{wrote(0, "b", "x")}, api.MaxOps)...)) {
		for _, o := range []api.Op{insert(0, "b", "v"), insert(0, "x", "v"), cut(0, "x"), cut(0, "b"), put(0, "b", "v"), hold(0, "b"), hold(0, "x"), whole(0, api.ModeR), whole(1, api.ModeW)} {
			if x, a, e := alone.Do(some(), p, o, true); e != api.OK || !samePend(x, p) || !sameAnswer(a, failed(api.ErrOnly)) {
				t.Errorf("%v, %+v: %v, %+v, %v", p, o, x, a, e)
			}
		}
	}
}

// Of all maps that are small, all that may be pending, all ops.
func TestDoEverywhere(t *testing.T) {
	for _, m := range small() {
		for _, p := range pends() {
			for _, o := range ops(len(m)) {
				ask(t, m, p, o, false)
				ask(t, m, p, o, true)
			}
		}
	}
}

// Maps with more rows than a table has room for: keys and ranges at all borders
// of as many, own writes in the place of rows there, and between them.
func TestDoOfManyRows(t *testing.T) {
	at := []int{0, 1, api.MaxRooms - 1, api.MaxRooms, api.MaxRooms + 1, 2*api.MaxRooms - 1, 2 * api.MaxRooms, 199}
	var writes, cuts, between []api.Write
	for _, i := range at {
		writes, cuts, between = append(writes, wrote(1, num(10*i), "own")), append(cuts, gone(1, num(10*i))), append(between, wrote(1, num(10*i-5), "own"))
	}
	for _, n := range sizes() {
		m := [][]api.Row{{row("a", "1")}, many(n)}
		for _, p := range []api.Pend{{}, own(writes...), own(cuts...), own(between...), own(append(cuts[:4:4], between[:8]...)...)} {
			for _, i := range append(at, n-1, n) {
				for _, k := range []string{num(10*i - 5), num(10 * i), num(10*i) + "\x00"} {
					for _, o := range []api.Op{get(1, k), hold(1, k), insert(1, k, "v"), put(1, k, "v"), cut(1, k), scan(1, top(k), 3), down(1, to("", k), 3), scan(1, to("", k), api.MaxNum), down(1, top(k), 70)} {
						ask(t, m, p, o, false)
					}
				}
			}
			for _, many := range []int{0, 1, n - 1, n, n + 1, api.MaxRooms, api.MaxNum} {
				ask(t, m, p, scan(1, key.All(), max(many, 0)), true)
				ask(t, m, p, down(1, key.All(), max(many, 0)), true)
				ask(t, m, p, scan(1, to(num(635), num(1295)), max(many, 0)), true)
				ask(t, m, p, down(1, to(num(640), num(1280)), max(many, 0)), true)
			}
		}
	}
}

func TestOpsThatMayNotBe(t *testing.T) {
	for _, m := range small() {
		for _, p := range []api.Pend{{}, mine(), filled(api.MaxOps)} {
			for _, o := range badOps(len(m)) {
				wantFormOfDo(t, m, p, o)
			}
		}
	}
}

func TestWhatMayNotBePending(t *testing.T) {
	for i, p := range badPends() {
		if pend.Check(p) == api.OK {
			t.Errorf("%d: %v", i, p)
		}
		for _, m := range small() {
			for _, o := range append(ops(len(m)), badOps(len(m))...) {
				wantFormOfDo(t, m, p, o)
			}
		}
	}
}

// Of a map without tables no op may be, also none that names no table.
func TestMapOfNoTables(t *testing.T) {
	for _, m := range [][][]api.Row{nil, {}, make([][]api.Row, 0, 3), some()[:0]} {
		for _, o := range append(ops(api.MaxTables), badOps(0)...) {
			wantFormOfDo(t, m, api.Pend{}, o)
			wantForm(t, m, prog(o))
			wantForm(t, m, reads(o))
		}
		if e := alone.Check(m); e != api.OK {
			t.Errorf("%v", e)
		}
		for _, g := range []api.Program{prog(), reads()} {
			if a, x, done, e := alone.Run(m, g); len(a) > 0 || len(x) > 0 || done || e != api.OK {
				t.Errorf("%v, %v, %v, %v", a, x, done, e)
			}
			if a, x, e := alone.Many(m, g, g); len(a) != 2 || len(a[0])+len(a[1])+len(x) > 0 || e != api.OK {
				t.Errorf("%v, %v, %v", a, x, e)
			}
		}
	}
}

// The map's last table, and one behind it.
func TestTheTableThatIsAsked(t *testing.T) {
	for n := 1; n <= api.MaxTables; n++ {
		m := some()[:n]
		for _, o := range ops(api.MaxTables) {
			if o.Table < n {
				ask(t, m, mine(), o, false)
				askRun(t, m, prog(o, commit()))
				continue
			}
			wantFormOfDo(t, m, mine(), o)
			wantForm(t, m, prog(o))
		}
	}
}

// Own writes of a table that the map has not may be pending: no op asks for it,
// and they stay.
func TestOwnWritesOfATableThatIsNotThere(t *testing.T) {
	p := api.Pend{List: []api.Write{wrote(2, "b", "x"), gone(1, "d"), wrote(0, "b", "own")}, Marks: []int{1}}
	for _, o := range ops(1) {
		ask(t, some()[:1], p, o, false)
		ask(t, some()[:1], p, o, true)
	}
}

// P13.2: Run

func TestRun(t *testing.T) {
	for i, c := range []struct {
		g    api.Program
		a    []api.Answer
		x    string
		done bool
	}{
		{prog(), nil, "b=1,d= c=3", false}, {reads(), nil, "b=1,d= c=3", false}, {prog(commit()), []api.Answer{nothing()}, "b=1,d= c=3", true}, {prog(rollback()), []api.Answer{nothing()}, "b=1,d= c=3", false}, {reads(commit()), []api.Answer{nothing()}, "b=1,d= c=3", true},
		{prog(put(0, "a", "x"), commit()), []api.Answer{nothing(), nothing()}, "a=x,b=1,d= c=3", true}, {prog(put(0, "a", "x"), rollback()), []api.Answer{nothing(), nothing()}, "b=1,d= c=3", false}, {prog(put(0, "a", "x")), []api.Answer{nothing()}, "b=1,d= c=3", false}, {reads(put(0, "a", "x"), commit()), []api.Answer{failed(api.ErrOnly), nothing()}, "b=1,d= c=3", true},
		{prog(cut(0, "b"), cut(0, "b"), cut(1, "c"), commit()), []api.Answer{nothing(), failed(api.ErrNone), nothing(), nothing()}, "d= ", true}, {prog(insert(0, "b", "x"), insert(0, "c", "x"), insert(0, "c", "y"), commit()), []api.Answer{failed(api.ErrThere), nothing(), failed(api.ErrThere), nothing()}, "b=1,c=x,d= c=3", true},
		{prog(put(0, "b", "2"), save(), put(0, "b", "3"), put(1, "z", ""), back(0), get(0, "b"), commit()), []api.Answer{nothing(), number(0), nothing(), nothing(), nothing(), value("2"), nothing()}, "b=2,d= c=3", true}, {prog(save(), put(0, "b", "3"), save(), cut(0, "b"), release(0), back(0), commit()), []api.Answer{number(0), nothing(), number(1), nothing(), nothing(), failed(api.ErrMark), nothing()}, "d= c=3", true},
		{prog(put(0, "a", "x"), commit(), put(0, "a", "y"), rollback(), get(0, "a")), []api.Answer{nothing(), nothing()}, "a=x,b=1,d= c=3", true}, {prog(put(0, "a", "x"), rollback(), put(0, "a", "y"), commit()), []api.Answer{nothing(), nothing()}, "b=1,d= c=3", false}, {prog(commit(), commit()), []api.Answer{nothing()}, "b=1,d= c=3", true},
		{reads(get(0, "b"), get(0, "x"), scan(0, key.All(), 1), save(), back(0), hold(0, "b"), cut(0, "b"), whole(1, api.ModeR), rollback(), commit()), []api.Answer{value("1"), failed(api.ErrNone), found(row("b", "1")), number(0), nothing(), failed(api.ErrOnly), failed(api.ErrOnly), failed(api.ErrOnly), nothing()}, "b=1,d= c=3", false},
		{prog(cut(0, "b"), insert(0, "b", "new"), down(0, key.All(), 9), whole(0, api.ModeW), hold(0, "b"), commit()), []api.Answer{nothing(), nothing(), found(row("d", ""), row("b", "new")), nothing(), value("new"), nothing()}, "b=new,d= c=3", true},
	} {
		m := [][]api.Row{{row("b", "1"), row("d", "")}, {row("c", "3")}}
		if a, x, done, e := alone.Run(m, c.g); e != api.OK || done != c.done || !sameAnswers(a, c.a) || text(x) != c.x {
			t.Errorf("%d: %+v: %+v, %q, %v, %v", i, c.g, a, text(x), done, e)
		}
	}
}

func text(m [][]api.Row) string {
	var tables []string
	for _, rows := range m {
		var l []string
		for _, r := range rows {
			l = append(l, r.Key+"="+r.Value)
		}
		tables = append(tables, strings.Join(l, ","))
	}
	return strings.Join(tables, " ")
}

// programs are all of up to n of these ops.
func programs(n int, l []api.Op) []api.Program {
	all := []api.Program{prog()}
	for from := 0; n > 0; n-- {
		upTo := len(all)
		for _, g := range all[from:upTo] {
			for _, o := range l {
				all = append(all, prog(append(slices.Clone(g.Ops), o)...))
			}
		}
		from = upTo
	}
	return all
}

func TestRunEverywhere(t *testing.T) {
	maps := [][][]api.Row{{nil}, {{row("b", "1")}}, {{row("b", "1"), row("c", "2")}, {row("b", "")}}}
	l := []api.Op{get(0, "b"), insert(0, "b", "x"), put(0, "c", "y"), cut(0, "b"), scan(0, key.All(), 9), save(), back(0), release(0), commit(), rollback()}
	for _, g := range programs(4, l) {
		only := reads(g.Ops...)
		ended := prog(append(slices.Clone(g.Ops), commit())...)
		for _, m := range maps {
			askRun(t, m, g)
			askRun(t, m, only)
			askRun(t, m, ended)
		}
	}
}

// later are programs of up to as many ops as may be, by a rule that has no order
// to be seen.
func later(tables, n int) []api.Program {
	all := ops(tables)
	var l []api.Program
	seed := uint32(n + tables)
	next := func(below int) int {
		seed = seed*1664525 + 1013904223
		return int(seed>>8) % below
	}
	for range n {
		g := api.Program{Only: next(8) == 0}
		for range next(api.MaxOps + 1) {
			switch next(6) {
			case 0:
				g.Ops = append(g.Ops, save())
			case 1:
				g.Ops = append(g.Ops, []api.Op{back(next(3)), release(next(3))}[next(2)])
			case 2, 3:
				k := []string{"a", "b", "d"}[next(3)]
				g.Ops = append(g.Ops, []api.Op{insert(next(tables), k, "i"), put(next(tables), k, strconv.Itoa(next(100))), cut(next(tables), k)}[next(3)])
			default:
				g.Ops = append(g.Ops, all[3+next(len(all)-3)])
			}
		}
		if len(g.Ops) < api.MaxOps && next(4) > 0 {
			g.Ops = append(g.Ops, []api.Op{commit(), commit(), rollback()}[next(3)])
		}
		l = append(l, g)
	}
	return l
}

func TestRunOfLongPrograms(t *testing.T) {
	for _, m := range append(small(), [][]api.Row{many(200), many(65), nil}, [][]api.Row{many(api.MaxRooms), nil}) {
		for _, g := range later(len(m), 800) {
			askRun(t, m, g)
		}
	}
}

// Programs of no ops, of as many as may be, and of more.
func TestLengths(t *testing.T) {
	for n := range 3 * api.MaxOps {
		for _, o := range []api.Op{save(), put(0, "b", "x"), get(0, "b"), commit(), rollback()} {
			l := slices.Repeat([]api.Op{o}, n)
			for _, g := range []api.Program{prog(l...), reads(l...)} {
				if n > api.MaxOps {
					wantForm(t, some(), g)
					continue
				}
				askRun(t, some(), g)
			}
		}
	}
}

// As many writes as a program may have, and more savepoints than there may be.
func TestLimitsOfAProgram(t *testing.T) {
	var l []api.Op
	for i := range api.MaxOps - 1 {
		l = append(l, put(0, num(i), "v"))
	}
	if a, x, done, e := alone.Run([][]api.Row{nil}, prog(append(l, commit())...)); e != api.OK || !done || !sameAnswers(a, make([]api.Answer, api.MaxOps)) || len(x) != 1 || len(x[0]) != api.MaxOps-1 {
		t.Errorf("%+v, %v, %v, %v", a, x, done, e)
	}
	saves := append(slices.Repeat([]api.Op{save()}, api.MaxMarks+1), release(api.MaxMarks-1), save(), back(0), save())
	want := []api.Answer{number(0), number(1), number(2), number(3), number(4), number(5), failed(api.ErrLimit), nothing(), number(5), nothing(), number(1)}
	for _, g := range []api.Program{prog(saves...), reads(saves...)} {
		if a, _, done, e := alone.Run([][]api.Row{nil}, g); e != api.OK || done || !sameAnswers(a, want) {
			t.Errorf("%+v, %v, %v", a, done, e)
		}
	}
}

// One op that may not be, wherever it stands: also behind the op that ends it.
func TestProgramsThatMayNotBe(t *testing.T) {
	for _, m := range [][][]api.Row{{{row("b", "1")}}, some()} {
		for _, o := range badOps(len(m)) {
			for _, g := range []api.Program{prog(o), reads(o), prog(put(0, "b", "x"), o), prog(o, commit()), prog(commit(), o), prog(put(0, "b", "x"), commit(), o), prog(rollback(), o), reads(commit(), o), prog(append(slices.Repeat([]api.Op{save()}, api.MaxOps-1), o)...)} {
				wantForm(t, m, g)
			}
		}
	}
}

// P13.2: Many

func TestMany(t *testing.T) {
	m := [][]api.Row{{row("b", "1"), row("d", "")}, {row("c", "3")}}
	a, x, e := alone.Many(m,
		prog(put(0, "a", "x"), cut(0, "b"), commit()),
		reads(scan(0, key.All(), 9), get(1, "c"), commit()),
		prog(insert(0, "a", "y"), insert(0, "b", "y"), rollback()),
		prog(get(0, "b"), put(1, "c", "4")),
		prog(),
		prog(hold(1, "c"), put(1, "c", "5"), commit(), put(1, "c", "6")),
		reads(get(1, "c"), put(1, "c", "7"), commit()),
		prog(cut(0, "a"), cut(0, "d"), scan(0, key.All(), 9), commit()),
	)
	want := [][]api.Answer{
		{nothing(), nothing(), nothing()}, {found(row("a", "x"), row("d", "")), value("3"), nothing()}, {failed(api.ErrThere), nothing(), nothing()}, {failed(api.ErrNone), nothing()}, nil,
		{value("3"), nothing(), nothing()}, {value("5"), failed(api.ErrOnly), nothing()}, {nothing(), nothing(), nothing(), nothing()},
	}
	if e != api.OK || text(x) != " c=5" || !slices.EqualFunc(a, want, sameAnswers) {
		t.Errorf("%+v, %q, %v", a, text(x), e)
	}
}

func TestManyOfNone(t *testing.T) {
	for _, m := range append(small(), nil, [][]api.Row{many(200)}) {
		if a, x, e := alone.Many(m); len(a) > 0 || !sameMap(x, m) || e != api.OK {
			t.Errorf("%v, %v, %v", a, x, e)
		}
	}
}

// Many is Run, of each program on the map that is behind the one ahead of it.
func TestManyEverywhere(t *testing.T) {
	for _, m := range small() {
		l := later(len(m), 300)
		for from := 0; from < len(l); from += 7 {
			some := l[from:min(from+1+from%13, len(l))]
			now := m
			var want [][]api.Answer
			for _, g := range some {
				a, x, _ := runOf(now, g)
				want, now = append(want, a), x
			}
			if a, x, e := alone.Many(m, some...); e != api.OK || !slices.EqualFunc(a, want, sameAnswers) || !sameMap(x, now) {
				t.Fatalf("%v, %+v: %+v, %v, %v, not %+v, %v", m, some, a, x, e, want, now)
			}
		}
	}
}

// More programs than rows, more rows than a table has room for.
func TestManyGrows(t *testing.T) {
	var l []api.Program
	const writes = api.MaxOps - 1
	for i := range 20 {
		var g api.Program
		for at := range writes {
			g.Ops = append(g.Ops, insert(0, num((i+20*at)*7%1000), strconv.Itoa(i)))
		}
		g.Ops = append(g.Ops, commit())
		l = append(l, g)
	}
	a, x, e := alone.Many([][]api.Row{nil}, l...)
	if e != api.OK || len(x) != 1 || len(x[0]) != 20*writes || alone.Check(x) != api.OK {
		t.Fatalf("%v, %v", x, e)
	}
	for i, told := range a {
		if !sameAnswers(told, make([]api.Answer, api.MaxOps)) {
			t.Errorf("%d: %+v", i, told)
		}
	}
}

// P13.3

// rolledBack are programs that do what g does, up to its end, and roll back.
func rolledBack(g api.Program) []api.Program {
	var l []api.Op
	for _, o := range g.Ops {
		if o.Kind == api.OpCommit || o.Kind == api.OpRollback {
			break
		}
		l = append(l, o)
	}
	l = l[:min(len(l), api.MaxOps-1)]
	return []api.Program{{Only: g.Only, Ops: l}, {Only: g.Only, Ops: append(slices.Clone(l), rollback())}}
}

func TestWhatIsRolledBackChangesNothing(t *testing.T) {
	last := prog(scan(0, key.All(), api.MaxNum), insert(0, "b", "last"), cut(0, "d"), get(0, "a"), commit())
	for _, m := range append(small(), [][]api.Row{many(200), many(65), nil}) {
		wantA, wantX, _ := runOf(m, last)
		for _, g := range later(len(m), 400) {
			for _, undone := range rolledBack(g) {
				if _, x, done, e := alone.Run(m, undone); e != api.OK || done || !sameMap(x, m) {
					t.Fatalf("%v, %+v: %v, %v, %v", m, undone, x, done, e)
				}
				a, x, e := alone.Many(m, undone, last)
				if e != api.OK || len(a) != 2 || !sameAnswers(a[1], wantA) || !sameMap(x, wantX) {
					t.Fatalf("%v, %+v: %v, %v, %v", m, undone, a, x, e)
				}
			}
		}
	}
}

// What is behind a savepoint and was returned from changes nothing either.
func TestWhatIsReturnedFromChangesNothing(t *testing.T) {
	writes := []api.Op{put(0, "a", "x"), put(0, "b", "y"), cut(0, "b"), insert(0, "c", "z"), cut(0, "d")}
	for _, m := range small() {
		for _, ahead := range programs(2, writes) {
			for _, behind := range programs(2, writes) {
				with := append(append(append(slices.Clone(ahead.Ops), save()), behind.Ops...), back(0), commit())
				without := append(slices.Clone(ahead.Ops), commit())
				_, x, _, e := alone.Run(m, prog(with...))
				_, y, _, f := alone.Run(m, prog(without...))
				if e != api.OK || f != api.OK || !sameMap(x, y) {
					t.Fatalf("%v, %+v: %v, %v, not %v", m, with, x, e, y)
				}
			}
		}
	}
}

// What an op tells is what the layers below tell of it.
func TestAgainstTheLayersBelow(t *testing.T) {
	for _, m := range small() {
		var tables []api.Table
		for _, rows := range m {
			var x api.Table
			for _, r := range rows {
				x.Rows = append(x.Rows, api.Chain{Key: r.Key, List: []api.Version{{Commit: 7, Value: r.Value}}})
			}
			tables = append(tables, x)
		}
		for _, p := range pends() {
			for _, o := range ops(len(m)) {
				_, a, _ := alone.Do(m, p, o, true)
				want := nothing()
				switch {
				case plan.Writes(o):
					want = failed(api.ErrOnly)
				case o.Kind == api.OpGet:
					v, e := view.Get(tables, p, o.Table, o.Key, 9)
					want = api.Answer{Err: int(e), Value: v}
				case o.Kind == api.OpScan:
					l, e := view.Scan(tables, p, o.Table, o.Keys, 9, o.N, o.Back)
					want = api.Answer{Err: int(e), Rows: l}
				default:
					continue
				}
				if !sameAnswer(a, want) {
					t.Fatalf("%v, %v, %+v: %+v, not %+v", m, p, o, a, want)
				}
			}
		}
	}
}

// R2

// given is what calls are handed in.
type given struct {
	m [][]api.Row
	p api.Pend
	g api.Program
}

// roomy is g with marks in the spare room of all its lists.
func roomy(g given) given {
	m := make([][]api.Row, 0, len(g.m)+1)
	for _, rows := range g.m {
		m = append(m, append(slices.Clone(rows), row("mark", "1"), row("mark", "2"))[:len(rows)])
	}
	m = append(m, []api.Row{row("mark", "3")})[:len(g.m)]
	list := append(slices.Clone(g.p.List), wrote(-7, "mark", ""), gone(-8, "mark"))
	marks := append(slices.Clone(g.p.Marks), -7, -8)
	ops := append(slices.Clone(g.g.Ops), get(-7, "mark"), get(-8, "mark"))
	return given{m, api.Pend{List: list[:len(g.p.List)], Marks: marks[:len(g.p.Marks)]}, api.Program{Only: g.g.Only, Ops: ops[:len(g.g.Ops)]}}
}

// laidDown is all that roomy laid down, as lists.
func laidDown(g given) given {
	m := slices.Clone(g.m[:len(g.m)+1])
	for t, rows := range g.m {
		m[t] = slices.Clone(rows[:len(rows)+2])
	}
	return given{m, api.Pend{List: slices.Clone(g.p.List[:len(g.p.List)+2]), Marks: slices.Clone(g.p.Marks[:len(g.p.Marks)+2])}, api.Program{Only: g.g.Only, Ops: slices.Clone(g.g.Ops[:len(g.g.Ops)+2])}}
}

// stays holds what roomy made of g, with all that was laid down, to be as it was.
func stays(t *testing.T, x, g given) {
	t.Helper()
	a, b := laidDown(x), laidDown(roomy(g))
	if !sameMap(a.m, b.m) || !samePend(a.p, b.p) || !slices.Equal(a.g.Ops, b.g.Ops) || a.g.Only != b.g.Only {
		t.Fatalf("%v, not %v", a, b)
	}
}

// givens are maps with what is pending and a program, such as may be and such as
// may not.
func givens() []given {
	var all []given
	for _, m := range append(small(), nil, [][]api.Row{many(api.MaxRooms)}, [][]api.Row{nil, many(200)}) {
		l := append(later(max(len(m), 1), 20), prog(), prog(put(0, "b", "x"), commit()), prog(put(0, "b", "x"), rollback()), prog(scan(0, key.All(), 9), save(), put(0, "a", ""), back(0), commit()), prog(api.Op{}))
		for i, g := range l {
			all = append(all, given{m, pends()[i%len(pends())], g})
		}
		for i, p := range append(pends(), badPends()...) {
			all = append(all, given{m, p, l[i%len(l)]})
		}
	}
	for _, m := range badMaps() {
		all = append(all, given{m, mine(), prog(put(0, "b", "x"), commit())})
	}
	return all
}

func callAll(g given) {
	alone.Check(g.m)
	for _, o := range append(ops(1), api.Op{}, get(7, "b"), scan(1, key.All(), 9)) {
		alone.Do(g.m, g.p, o, false)
		alone.Do(g.m, g.p, o, true)
	}
	alone.Run(g.m, g.g)
	alone.Many(g.m)
	alone.Many(g.m, g.g, reads(g.g.Ops...), g.g)
}

func TestHandedInStaysAsItIs(t *testing.T) {
	for _, g := range givens() {
		x := roomy(g)
		callAll(x)
		stays(t, x, g)
	}
}

// The list of programs itself stays, too, with what lies behind its end.
func TestProgramsHandedInStay(t *testing.T) {
	l := []api.Program{prog(put(0, "b", "x"), commit()), reads(get(0, "b")), prog(cut(0, "b"), commit()), prog(rollback())}
	for n := range len(l) {
		alone.Many(some(), l[:n]...)
		alone.Many(nil, l[:n]...)
	}
	for i, want := range []api.Program{prog(put(0, "b", "x"), commit()), reads(get(0, "b")), prog(cut(0, "b"), commit()), prog(rollback())} {
		if l[i].Only != want.Only || !slices.Equal(l[i].Ops, want.Ops) {
			t.Errorf("%d: %v", i, l[i])
		}
	}
}

// To scribble is to write into what was told, and behind its end.

func scribbleMap(m [][]api.Row) {
	for _, rows := range m {
		scribbleRows(rows)
	}
	for t := range m[:cap(m)] {
		m[:cap(m)][t] = []api.Row{row("written", "written")}
	}
}

func scribbleRows(l []api.Row) {
	for at := range l[:cap(l)] {
		l[:cap(l)][at] = row("written", "written")
	}
}

func scribblePend(p api.Pend) {
	for at := range p.List[:cap(p.List)] {
		p.List[:cap(p.List)][at] = wrote(-1, "written", "")
	}
	for at := range p.Marks[:cap(p.Marks)] {
		p.Marks[:cap(p.Marks)][at] = -1
	}
}

func scribbleAnswers(l []api.Answer) {
	for _, a := range l {
		scribbleRows(a.Rows)
	}
	for at := range l[:cap(l)] {
		l[:cap(l)][at] = value("written")
	}
}

// What is pending behind an op, and what it told, are new: also where nothing is
// changed, and where there is an error in the answer.
func TestDoTellsCopies(t *testing.T) {
	for _, g := range givens() {
		x := roomy(g)
		for _, o := range append(ops(1), scan(1, key.All(), 9)) {
			for _, only := range []bool{false, true} {
				p, a, e := alone.Do(x.m, x.p, o, only)
				q, b, f := alone.Do(x.m, x.p, o, only)
				scribblePend(p)
				scribbleRows(a.Rows)
				r, c, h := alone.Do(x.m, x.p, o, only)
				if !samePend(q, r) || !sameAnswer(b, c) || e != f || e != h {
					t.Fatalf("%v, %+v: %v, %+v, not %v, %+v", g, o, q, b, r, c)
				}
			}
		}
		stays(t, x, g)
	}
}

func TestRunTellsCopies(t *testing.T) {
	for _, g := range givens() {
		x := roomy(g)
		a, m, done, e := alone.Run(x.m, x.g)
		b, n, too, f := alone.Run(x.m, x.g)
		scribbleAnswers(a)
		scribbleMap(m)
		c, o, also, h := alone.Run(x.m, x.g)
		if !sameAnswers(b, c) || !sameMap(n, o) || done != too || done != also || e != f || e != h {
			t.Fatalf("%v: %v, %v, not %v, %v", g, b, n, c, o)
		}
		stays(t, x, g)
	}
}

func TestManyTellsCopies(t *testing.T) {
	for _, g := range givens() {
		x := roomy(g)
		for _, l := range [][]api.Program{nil, {x.g}, {x.g, x.g}, {prog(), x.g, reads(x.g.Ops...)}} {
			a, m, e := alone.Many(x.m, l...)
			b, n, f := alone.Many(x.m, l...)
			for at := range a {
				scribbleAnswers(a[at])
			}
			for at := range a[:cap(a)] {
				a[:cap(a)][at] = nil
			}
			scribbleMap(m)
			c, o, h := alone.Many(x.m, l...)
			if !slices.EqualFunc(b, c, sameAnswers) || !sameMap(n, o) || e != f || e != h {
				t.Fatalf("%v: %v, %v, not %v, %v", g, b, n, c, o)
			}
		}
		stays(t, x, g)
	}
}

// No two lists of one answer share memory, spare room too.
func TestListsOfAnAnswer(t *testing.T) {
	look := prog(scan(0, key.All(), api.MaxNum), scan(0, key.All(), 1), down(0, key.All(), 2), scan(0, key.All(), 0), put(0, "b", "x"), scan(0, key.All(), api.MaxNum), commit())
	for _, m := range append(small(), [][]api.Row{many(200)}, [][]api.Row{many(api.MaxRooms), many(65), many(3)}) {
		for _, last := range []api.Op{commit(), rollback(), save()} {
			g := prog(append(slices.Clone(look.Ops[:6]), last)...)
			wantA, wantX, _ := runOf(m, g)
			a, x, e := alone.Many(m, g)
			if e != api.OK || len(a) != 1 {
				t.Fatalf("%v, %v", a, e)
			}
			lists := make([][]api.Row, 0, 9)
			wants := make([][]api.Row, 0, 9)
			for at := range a[0] {
				lists, wants = append(lists, a[0][at].Rows), append(wants, wantA[at].Rows)
			}
			for at := range x {
				lists, wants = append(lists, x[at]), append(wants, wantX[at])
			}
			for at := range lists {
				scribbleRows(lists[at])
				copy(lists[at], wants[at])
				if !sameMap(lists, wants) {
					t.Fatalf("%v: %d: %v, not %v", m, at, lists, wants)
				}
			}
		}
	}
}

// The map that a program rolled back is told as a new one, too.
func TestTheMapIsNew(t *testing.T) {
	for _, g := range []api.Program{prog(), prog(rollback()), prog(commit()), prog(put(2, "b", "x"), commit()), reads(commit())} {
		m := some()
		_, x, _, _ := alone.Run(m, g)
		_, y, _ := alone.Many(m, g)
		_, z, _ := alone.Many(m)
		for _, told := range [][][]api.Row{x, y, z} {
			scribbleMap(told)
			if !sameMap(m, some()) {
				t.Fatalf("%+v: %v", g, m)
			}
		}
	}
}

// A list that is nil and one that is empty are one.
func TestNilAndEmptyAreOne(t *testing.T) {
	for _, rows := range [][]api.Row{nil, {}, make([]api.Row, 0, 3), some()[0][:0]} {
		for _, list := range [][]api.Write{nil, {}, make([]api.Write, 0, 3), mine().List[:0]} {
			for _, marks := range [][]int{nil, {}, make([]int, 0, 3)} {
				for _, o := range ops(2) {
					ask(t, [][]api.Row{rows, rows}, api.Pend{List: list, Marks: marks}, o, false)
				}
			}
		}
		for _, l := range [][]api.Op{nil, {}, make([]api.Op, 0, 3), []api.Op{save()}[:0]} {
			askRun(t, [][]api.Row{rows, nil}, prog(l...))
			askRun(t, [][]api.Row{rows, nil}, reads(l...))
		}
	}
}
