package script_test

import (
	"fmt"
	"strings"

	"quorum/api"
)

func get(t int, k string) api.Op { return api.Op{Kind: api.OpGet, Table: t, Key: k} }

func hold(t int, k string) api.Op { return api.Op{Kind: api.OpHold, Table: t, Key: k} }

func insert(t int, k, v string) api.Op { return api.Op{Kind: api.OpInsert, Table: t, Key: k, Value: v} }

func put(t int, k, v string) api.Op { return api.Op{Kind: api.OpPut, Table: t, Key: k, Value: v} }

func cut(t int, k string) api.Op { return api.Op{Kind: api.OpDelete, Table: t, Key: k} }

func scan(t int, r api.Range, n int) api.Op {
	return api.Op{Kind: api.OpScan, Table: t, Keys: r, N: n}
}

func down(t int, r api.Range, n int) api.Op {
	return api.Op{Kind: api.OpScan, Table: t, Keys: r, N: n, Back: true}
}

func whole(t, mode int) api.Op { return api.Op{Kind: api.OpTable, Table: t, N: mode} }

func save() api.Op { return api.Op{Kind: api.OpSave} }

func back(n int) api.Op { return api.Op{Kind: api.OpReturn, N: n} }

func release(n int) api.Op { return api.Op{Kind: api.OpRelease, N: n} }

func commit() api.Op { return api.Op{Kind: api.OpCommit} }

func rollback() api.Op { return api.Op{Kind: api.OpRollback} }

func to(low, high string) api.Range { return api.Range{Low: low, High: high} }

func top(low string) api.Range { return api.Range{Low: low, Top: true} }

func prog(l ...api.Op) api.Program { return api.Program{Ops: l} }

func reads(l ...api.Op) api.Program { return api.Program{Only: true, Ops: l} }

// on is an epoch in which the power stays on; off one in which it goes.

func on(picks []int, l ...api.Program) api.Epoch {
	return api.Epoch{Programs: l, Picks: picks, Crash: -1}
}

func off(e api.Epoch, crash int, keep ...int) api.Epoch {
	e.Crash, e.Keep = crash, keep
	return e
}

// epochs is a list of them.
func epochs(l ...api.Epoch) []api.Epoch { return l }

// idle are n epochs of which each has so many picks, all of which do nothing.
func idle(n, picks int) []api.Epoch {
	var l []api.Epoch
	for range n {
		l = append(l, api.Epoch{Picks: make([]int, picks), Crash: -1})
	}
	return l
}

// look is an epoch that tells what is there; it takes four picks.
func look() api.Epoch {
	return on([]int{0, 0, 0, 1}, reads(scan(0, top(""), 99), scan(1, top(""), 99), commit()))
}

func policies() []int { return []int{api.PolicyCircle, api.PolicyDie} }

// wide has room for all.
func wide(policy, group int) api.Config {
	return api.Config{Tables: 2, Locks: 100, Versions: 60, Group: group, Policy: policy}
}

// two is a map of two tables.
func two() [][]api.Row {
	return [][]api.Row{{{Key: "a", Value: "1"}, {Key: "b", Value: "2"}, {Key: "c", Value: "3"}}, {{Key: "x", Value: "9"}}}
}

func none() [][]api.Row { return make([][]api.Row, 2) }

// rows are n, of the longest keys and values, rising.
func rows(n int) []api.Row {
	var l []api.Row
	for i := range n {
		l = append(l, api.Row{Key: fmt.Sprintf("%0*d", api.MaxKey, i), Value: long(api.MaxValue)})
	}
	return l
}

func long(n int) string { return strings.Repeat("v", n) }

// turns are n rounds of picks of many.
func turns(many, n int) []int {
	var l []int
	for i := range many * n {
		l = append(l, i%many)
	}
	return l
}

// inRow are picks of programs one behind the other, each to its end, and a flush
// behind each.
func inRow(l []api.Program) []int {
	var picks []int
	for n, g := range l {
		for range len(g.Ops) + 1 {
			picks = append(picks, n)
		}
		picks = append(picks, len(l))
	}
	return picks
}

// text is all of something, a nil list as an empty one.
func text(x ...any) string { return fmt.Sprint(x...) }

// families are programs that get in each other's way.
func families() [][]api.Program {
	return [][]api.Program{
		{prog(hold(0, "a"), hold(0, "b"), commit()), prog(hold(0, "b"), put(0, "a", "h"), commit())},
		{prog(get(0, "a"), put(0, "b", "0"), commit()), prog(get(0, "b"), put(0, "a", "1"), commit())},
		{prog(scan(0, to("a", "c"), 2), insert(0, "d", "0"), commit()), prog(down(0, top("c"), 2), insert(0, "ab", "1"), cut(0, "c"), commit())},
		{prog(whole(0, api.ModeR), put(0, "a", "0"), commit()), prog(whole(0, api.ModeW), cut(0, "a"), put(0, "b", "1"), commit())},
		{prog(save(), put(0, "a", "0"), back(0), get(0, "a"), commit()), prog(cut(0, "a"), save(), insert(0, "a", "1"), release(0), release(0), commit())},
		{prog(put(0, "a", "0"), put(0, "b", "0"), commit()), reads(get(0, "a"), put(0, "a", ""), scan(0, top(""), 9), commit()), prog(cut(0, "b"), rollback())},
		{prog(get(0, "a"), put(0, "a", "0"), commit()), prog(get(0, "a"), put(0, "a", "1"), commit()), reads(get(0, "a"), hold(0, "a"), get(0, "a"))},
		{prog(put(0, "a", "0"), commit()), prog(get(0, "a"), put(0, "b", "1"), commit()), prog(get(0, "b"), commit())},
		{prog(get(0, "a"), put(0, "b", "0"), commit()), prog(get(0, "b"), put(0, "c", "0"), commit()), prog(get(0, "c"), put(0, "a", "0"), commit())},
		{prog(scan(0, top(""), 9), put(1, "x", "0"), commit()), prog(get(1, "x"), commit()), reads(get(1, "x"), get(0, "a"), commit()), prog(put(0, "a", "1"), commit())},
		{prog(put(0, "a", "0"), commit()), prog(put(0, "b", "1"), commit()), prog(put(0, "c", "2")), prog(put(1, "x", "3"), commit()), prog(put(1, "y", "4"), commit()), prog(cut(1, "x"), commit())},
	}
}

// dice are numbers one behind the other: always the same.
type dice uint64

func (d *dice) roll(n int) int {
	*d = *d*6364136223846793005 + 1442695040888963407
	return int(uint64(*d) >> 33 % uint64(n))
}

// of is one of some.
func of[T any](d *dice, l ...T) T { return l[d.roll(len(l))] }

func (d *dice) op() api.Op {
	t, k, v := d.roll(4)/3, of(d, "a", "b", "c", "d", "bb"), long(d.roll(api.MaxValue+1))
	r := of(d, top(""), to("a", "c"), to("b", "bc"), top("c"), to("b", "b"), to("", "b"), to("bb", "d"))
	switch d.roll(16) {
	case 0, 1, 2:
		return get(t, k)
	case 3:
		return hold(t, k)
	case 4, 5:
		return insert(t, k, v)
	case 6, 7, 8:
		return put(t, k, v)
	case 9:
		return cut(t, k)
	case 10:
		return scan(t, r, d.roll(4))
	case 11:
		return down(t, r, d.roll(4))
	case 12:
		return whole(t, 1+d.roll(2))
	case 13:
		return save()
	case 14:
		return back(d.roll(2))
	}
	return release(d.roll(2))
}

func (d *dice) program() api.Program {
	g := api.Program{Only: d.roll(5) == 0}
	for range d.roll(7) {
		g.Ops = append(g.Ops, d.op())
	}
	switch d.roll(8) {
	case 0:
		g.Ops = append(g.Ops, rollback(), commit())
	case 1:
	default:
		g.Ops = append(g.Ops, commit())
	}
	return g
}

func (d *dice) programs() []api.Program {
	l := make([]api.Program, 1+d.roll(api.MaxProgs))
	for n := range l {
		l[n] = d.program()
	}
	return l
}

func (d *dice) config() api.Config {
	return api.Config{Tables: 2, Locks: of(d, 100, 100, 6, 3), Versions: of(d, 60, 60, 8, 6), Group: 1 + d.roll(api.MaxGroup), Policy: of(d, policies()...)}
}

func (d *dice) rows() [][]api.Row { return of(d, none(), two(), two(), two()) }

// picks are of any programs, of a flush now and then, and a few that are none.
func (d *dice) picks(many int) []int {
	var l []int
	for range d.roll(12*many + 1) {
		switch n := d.roll(24); n {
		case 0:
			l = append(l, of(d, -1, many+1, -1<<63, 1<<63-1))
		case 1, 2:
			l = append(l, many)
		default:
			l = append(l, n%many)
		}
	}
	return l
}

func (d *dice) keep() []int {
	var l []int
	for range d.roll(6) {
		l = append(l, d.roll(5)-2)
	}
	return l
}

// epoch is one in which the power stays on.
func (d *dice) epoch() api.Epoch {
	l := d.programs()
	e := on(d.picks(len(l)), l...)
	e.Keep = d.keep()
	return e
}

// bad is an epoch that errs.
func (d *dice) bad() api.Epoch {
	e := d.epoch()
	e.Crash = d.roll(9) - 1
	switch d.roll(3) {
	case 0:
		e.Programs = make([]api.Program, api.MaxProgs+1+d.roll(2))
	case 1:
		e.Programs = append(e.Programs[:len(e.Programs)-1], prog(get(2+d.roll(2), "a")))
	default:
		e.Programs[d.roll(len(e.Programs))] = prog(put(0, "d", ""), api.Op{Kind: of(d, 0, -1, 13)})
	}
	return e
}

// script are n epochs: such that err, that are cut, that are whole.
func (d *dice) script(n int) []api.Epoch {
	var l []api.Epoch
	for range n {
		e := d.epoch()
		switch d.roll(8) {
		case 0:
			e = d.bad()
		case 1, 2, 3:
			e.Crash = d.roll(24)
		}
		l = append(l, e)
	}
	return l
}
