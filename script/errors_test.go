package script_test

import (
	"math"
	"slices"
	"testing"

	"quorum/api"
	"quorum/script"
)

// P21.1: what may not be, and what of it is told first.

// wrong holds that an error is told, nothing beside it, and nothing is changed.
func wrong(t *testing.T, c api.Config, m [][]api.Row, l []api.Epoch, want api.Errno) {
	t.Helper()
	was := text(m)
	if r, e := script.Run(c, m, l); e != want || len(r.Answers) != 0 || len(r.Maps) != 0 || text(m) != was {
		t.Errorf("%v, %v, %d epochs: %v, not %v: %v", c, m, len(l), e, want, r)
	}
	if _, e := byTheWords(c, m, l); e != want {
		t.Errorf("the words: %v, %v, %d epochs: %v, not %v", c, m, len(l), e, want)
	}
}

// tooLong are lists that may not be, short such that may.

func tooLong() [][]api.Epoch {
	return [][]api.Epoch{idle(21, 0), idle(22, 100), idle(1, 2001), idle(2, 1001), idle(20, 101), slices.Repeat(epochs(look()), 21), slices.Concat(idle(19, 100), idle(1, 101)), append(idle(1, 2000), on([]int{0}, prog(get(9, ""))))}
}

func short() [][]api.Epoch {
	return [][]api.Epoch{nil, {}, idle(1, 0), idle(20, 0), idle(20, 100), idle(1, 2000), epochs(look()), slices.Repeat(epochs(look()), 20), epochs(on([]int{0}, prog(get(9, "")))), epochs(off(look(), 0), off(look(), 3, 1))}
}

// wrongIn holds which error is told, of lists that may be, and of others.
func wrongIn(t *testing.T, c api.Config, m [][]api.Row, want api.Errno) {
	t.Helper()
	for _, l := range tooLong() {
		wrong(t, c, m, l, api.ErrLimit)
	}
	for _, l := range short() {
		wrong(t, c, m, l, want)
	}
}

func badConfigs() []api.Config {
	l := []api.Config{{}, {Tables: -1, Locks: -1, Versions: -1, Group: -1, Policy: -1}}
	for field, most := range []int{api.MaxTables, api.MaxLocks, api.MaxRooms, api.MaxGroup, api.PolicyDie} {
		for _, n := range []int{math.MinInt, -1, 0, most + 1, math.MaxInt} {
			c := wide(api.PolicyCircle, 2)
			*[]*int{&c.Tables, &c.Locks, &c.Versions, &c.Group, &c.Policy}[field] = n
			l = append(l, c)
		}
	}
	return l
}

// badMaps are such as may not be, of two tables; the last ones have too many rows,
// too.
func badMaps() [][][]api.Row {
	var l [][][]api.Row
	for _, bad := range [][]api.Row{
		{{Key: "b"}, {Key: "a"}}, {{Key: "a"}, {Key: "a"}}, {{Key: "a"}, {Key: "b"}, {Key: "b"}}, {{Key: ""}}, {{Key: ""}, {Key: "a"}}, {{Key: long(13)}}, {{Key: "a", Value: long(21)}}, {{Key: "a"}, {Key: "b", Value: long(1 << 16)}},
		append(rows(api.MaxRooms+1), api.Row{Key: "0"}), append(rows(api.MaxRooms+1), api.Row{Key: long(13)}),
	} {
		l = append(l, [][]api.Row{bad, nil}, [][]api.Row{nil, bad}, [][]api.Row{rows(2), bad})
	}
	return l
}

func TestErrorsInOrder(t *testing.T) {
	for _, c := range badConfigs() {
		for _, m := range [][][]api.Row{nil, two(), two()[:1], badMaps()[0], {rows(api.MaxRooms + 1), nil}, make([][]api.Row, 4)} {
			wrongIn(t, c, m, api.ErrConfig)
		}
	}
	for _, versions := range []int{1, 3, api.MaxRooms} {
		c := wide(api.PolicyDie, 2)
		c.Versions = versions
		for _, m := range append(badMaps(), nil, [][]api.Row{}, two()[:1], [][]api.Row{nil, nil, nil}, [][]api.Row{rows(api.MaxRooms + 1)}, make([][]api.Row, 99)) {
			wrongIn(t, c, m, api.ErrForm)
		}
		for _, m := range [][][]api.Row{{rows(api.MaxRooms + 1), nil}, {nil, rows(api.MaxRooms + 1)}, {rows(33), rows(32)}, {rows(999), rows(999)}} {
			wrongIn(t, c, m, api.ErrFull)
		}
		if versions < api.MaxRooms {
			for _, m := range [][][]api.Row{{rows(versions + 1), nil}, {nil, rows(versions + 1)}, {rows(1), rows(versions)}, {rows(32), rows(32)}} {
				wrongIn(t, c, m, api.ErrLimit)
			}
		}
		for _, m := range [][][]api.Row{none(), {rows(versions), nil}, {rows(versions - 1), rows(1)}} {
			for _, l := range tooLong() {
				wrong(t, c, m, l, api.ErrLimit)
			}
			for _, l := range short() {
				held(t, c, m, l)
			}
		}
	}
}

// Configs and maps at their edges.
func TestEdgesThatMayBe(t *testing.T) {
	for tables := 1; tables <= api.MaxTables; tables++ {
		for _, locks := range []int{1, api.MaxLocks} {
			for _, versions := range []int{1, api.MaxRooms} {
				for _, group := range []int{1, api.MaxGroup} {
					for _, policy := range policies() {
						m := make([][]api.Row, tables)
						m[tables-1] = rows(versions)
						c := api.Config{Tables: tables, Locks: locks, Versions: versions, Group: group, Policy: policy}
						l := epochs(on(turns(3, 3), prog(put(tables-1, "n", "0"), commit()), prog(cut(tables-1, rows(1)[0].Key), commit()), reads(get(tables-1, rows(1)[0].Key), commit())), on(turns(1, 3), prog(put(0, "n", "1"), commit())))
						held(t, c, m, l)
						held(t, c, make([][]api.Row, tables), l)
					}
				}
			}
		}
	}
	odd := [][]api.Row{{{Key: "\x00", Value: "\xff\x00"}, {Key: "\x00\x00"}, {Key: "\xff"}, {Key: long(api.MaxKey), Value: long(api.MaxValue)}}, nil}
	slices.SortFunc(odd[0], func(a, b api.Row) int { return slices.Compare([]byte(a.Key), []byte(b.Key)) })
	r, e := held(t, wide(api.PolicyCircle, 1), odd, epochs(look()))
	if e != api.OK || text(r.Answers[0][0][0].Rows) != text(odd[0]) {
		t.Errorf("%v, %v", e, r)
	}
}

// Numbers that are the least and the greatest of all.
func TestGreatestNumbers(t *testing.T) {
	l := []int{math.MinInt, math.MinInt + 1, -2, -1, 0, 1, 2, 3, 1 << 31, math.MaxInt - 1, math.MaxInt}
	g := []api.Program{prog(put(0, "a", "n"), commit()), prog(cut(0, "b"), commit())}
	for _, crash := range append(l, 4, 5, 6, 7, 8, 9, 10) {
		for _, keep := range l {
			for _, other := range l {
				held(t, wide(api.PolicyDie, 2), two(), epochs(off(on([]int{0, crash, 1, keep, 0, other, 1}, g...), crash, keep, other), off(look(), other, keep), look()))
			}
		}
	}
}
