package engine_test

import (
	"fmt"
	"strconv"
	"strings"

	"quorum/api"
	"quorum/key"
)

func get(t int, k string) api.Op { return api.Op{Kind: api.OpGet, Table: t, Key: k} }

func hold(t int, k string) api.Op { return api.Op{Kind: api.OpHold, Table: t, Key: k} }

func insert(t int, k, v string) api.Op { return api.Op{Kind: api.OpInsert, Table: t, Key: k, Value: v} }

func put(t int, k, v string) api.Op { return api.Op{Kind: api.OpPut, Table: t, Key: k, Value: v} }

func cut(t int, k string) api.Op { return api.Op{Kind: api.OpDelete, Table: t, Key: k} }

func scan(t int, r api.Range, n int) api.Op {
	return api.Op{Kind: api.OpScan, Table: t, Keys: r, N: n}
}

func down(t int, r api.Range, n int) api.Op {
	return api.Op{Kind: api.OpScan, Table: t, Keys: r, N: n, Back: true}
}

func whole(t, mode int) api.Op { return api.Op{Kind: api.OpTable, Table: t, N: mode} }

func save() api.Op { return api.Op{Kind: api.OpSave} }

func back(n int) api.Op { return api.Op{Kind: api.OpReturn, N: n} }

func release(n int) api.Op { return api.Op{Kind: api.OpRelease, N: n} }

func commit() api.Op { return api.Op{Kind: api.OpCommit} }

func rollback() api.Op { return api.Op{Kind: api.OpRollback} }

func prog(l ...api.Op) api.Program { return api.Program{Ops: l} }

func reads(l ...api.Op) api.Program { return api.Program{Only: true, Ops: l} }

// list is programs, by itself.
func list(l ...api.Program) []api.Program { return l }

func to(low, high string) api.Range { return api.Range{Low: low, High: high} }

func top(low string) api.Range { return api.Range{Low: low, Top: true} }

func long(n int) string { return strings.Repeat("x", n) }

func policies() []int { return []int{api.PolicyCircle, api.PolicyDie} }

// grouped has room for all.
func grouped(policy, group int) api.Config {
	return api.Config{Tables: 2, Locks: 100, Versions: 60, Group: group, Policy: policy}
}

// two is a map of two tables.
func two() [][]api.Row {
	return [][]api.Row{{{Key: "a", Value: "1"}, {Key: "b", Value: "2"}, {Key: "c", Value: "3"}}, {{Key: "x", Value: "9"}}}
}

// rows are n, of the longest keys and values, rising.
func rows(n int) []api.Row {
	var l []api.Row
	for i := range n {
		l = append(l, api.Row{Key: fmt.Sprintf("%0*d", api.MaxKey, i), Value: strings.Repeat("v", api.MaxValue)})
	}
	return l
}

// puts are n, of keys and values that are long: v is of all of them.
func puts(n int, v string) []api.Op {
	var l []api.Op
	for i := range n {
		l = append(l, put(0, fmt.Sprintf("%0*d", api.MaxKey, i), strings.Repeat(v, api.MaxValue)))
	}
	return l
}

// turns are n rounds of picks of many programs.
func turns(many, n int) []int {
	var l []int
	for range n {
		for i := range many {
			l = append(l, i)
		}
	}
	return l
}

// inRow are picks of programs one behind the other, each to its end, and a flush
// behind each of them.
func inRow(l []api.Program) []int {
	var picks []int
	for n, g := range l {
		for range len(g.Ops) + 1 {
			picks = append(picks, n)
		}
		picks = append(picks, len(l))
	}
	return picks
}

// families are programs that get in each other's way.
func families() [][]api.Program {
	return [][]api.Program{
		list(prog(hold(0, "a"), hold(0, "b"), commit()), prog(hold(0, "b"), hold(0, "a"), commit())),
		list(prog(get(0, "a"), put(0, "b", "0"), commit()), prog(get(0, "b"), put(0, "a", "1"), commit())),
		list(prog(scan(0, to("a", "c"), 2), insert(0, "d", "0"), commit()), prog(down(0, top("c"), 2), insert(0, "ab", "1"), cut(0, "c"), commit())),
		list(prog(whole(0, api.ModeR), put(0, "a", "0"), commit()), prog(whole(0, api.ModeW), cut(0, "a"), put(0, "b", "1"), commit())),
		list(prog(save(), put(0, "a", "0"), back(0), get(0, "a"), commit()), prog(cut(0, "a"), save(), insert(0, "a", "1"), release(0), commit())),
		list(prog(put(0, "a", "0"), put(0, "b", "0"), commit()), reads(get(0, "a"), put(0, "a", ""), scan(0, top(""), 9), commit()), prog(cut(0, "b"), rollback())),
		list(prog(get(0, "a"), put(0, "a", "0"), commit()), prog(get(0, "a"), put(0, "a", "1"), commit()), reads(get(0, "a"), get(0, "a"), commit())),
		list(prog(put(0, "a", "0"), commit()), prog(get(0, "a"), put(0, "b", "1"), commit()), prog(get(0, "b"), commit())),
		list(prog(get(0, "a"), put(0, "b", "0"), commit()), prog(get(0, "b"), put(0, "c", "0"), commit()), prog(get(0, "c"), put(0, "a", "0"), commit())),
		list(prog(scan(0, top(""), 9), put(1, "x", "0"), commit()), prog(get(1, "x"), commit()), reads(get(1, "x"), get(0, "a"), commit()), prog(put(0, "a", "1"), commit())),
		list(prog(put(0, "a", "0"), commit()), prog(put(0, "b", "1"), commit()), prog(put(0, "c", "2"), commit()), prog(put(1, "x", "3"), commit()), prog(put(1, "y", "4"), commit()), prog(cut(1, "x"), commit())),
	}
}

// dice are numbers one behind the other: always the same.
type dice uint64

func (d *dice) roll(n int) int {
	*d = *d*6364136223846793005 + 1442695040888963407
	return int(uint64(*d) >> 33 % uint64(n))
}

func (d *dice) op() api.Op {
	keys := []string{"a", "b", "c", "d", "bb"}
	t, k, v := d.roll(4)/3, keys[d.roll(len(keys))], strconv.Itoa(d.roll(100))
	ranges := []api.Range{key.All(), to("a", "c"), to("b", "bc"), top("c"), to("b", "b"), to("", "b"), to("bb", "d")}
	switch d.roll(16) {
	case 0, 1, 2:
		return get(t, k)
	case 3:
		return hold(t, k)
	case 4, 5:
		return insert(t, k, v)
	case 6, 7, 8:
		return put(t, k, v)
	case 9:
		return cut(t, k)
	case 10:
		return scan(t, ranges[d.roll(len(ranges))], d.roll(4))
	case 11:
		return down(t, ranges[d.roll(len(ranges))], d.roll(4))
	case 12:
		return whole(t, 1+d.roll(2))
	case 13:
		return save()
	case 14:
		return back(d.roll(2))
	}
	return release(d.roll(2))
}

func (d *dice) program(most int) api.Program {
	g := api.Program{Only: d.roll(5) == 0}
	for range d.roll(most) {
		g.Ops = append(g.Ops, d.op())
	}
	switch d.roll(8) {
	case 0:
		g.Ops = append(g.Ops, rollback(), commit())
	case 1:
	default:
		g.Ops = append(g.Ops, commit())
	}
	return g
}

func (d *dice) programs() []api.Program {
	l := make([]api.Program, 1+d.roll(api.MaxProgs))
	for n := range l {
		l[n] = d.program(6)
	}
	return l
}

func (d *dice) config() api.Config {
	locks, versions := []int{100, 100, 6, 3}, []int{60, 60, 8, 6}
	return api.Config{Tables: 2, Locks: locks[d.roll(4)], Versions: versions[d.roll(4)], Group: 1 + d.roll(api.MaxGroup), Policy: 1 + d.roll(2)}
}

func (d *dice) rows() [][]api.Row {
	if d.roll(4) == 0 {
		return make([][]api.Row, 2)
	}
	return two()
}

// picks are of any programs, of a flush now and then, and a few that are none.
func (d *dice) picks(many int) []int {
	var l []int
	for range d.roll(12*many + 1) {
		switch n := d.roll(24); n {
		case 0:
			l = append(l, []int{-1, many + 1, -1 << 63, 1<<63 - 1}[d.roll(4)])
		case 1, 2:
			l = append(l, many)
		default:
			l = append(l, n%many)
		}
	}
	return l
}

func (d *dice) keep() []int {
	var l []int
	for range d.roll(6) {
		l = append(l, d.roll(5)-2)
	}
	return l
}

func (d *dice) epoch() api.Epoch {
	l := d.programs()
	return api.Epoch{Programs: l, Picks: d.picks(len(l)), Crash: -1, Keep: d.keep()}
}
