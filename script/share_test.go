package script_test

import (
	"reflect"
	"slices"
	"strings"
	"testing"

	"quorum/api"
	"quorum/script"
)

// R1, R2.

// span is where a list lies, its spare room, too, or a text.
type span struct{ from, to uintptr }

// spans are those of all lists and texts, all the way down.
func spans(v reflect.Value) []span {
	var l []span
	switch v.Kind() {
	case reflect.String:
		if v.Len() > 0 {
			from := uintptr(v.UnsafePointer())
			l = append(l, span{from, from + uintptr(v.Len())})
		}
	case reflect.Slice:
		if v.Cap() > 0 {
			l = append(l, span{v.Pointer(), v.Pointer() + uintptr(v.Cap())*v.Type().Elem().Size()})
		}
		for i := range v.Len() {
			l = append(l, spans(v.Index(i))...)
		}
	case reflect.Struct:
		for i := range v.NumField() {
			l = append(l, spans(v.Field(i))...)
		}
	}
	return l
}

// apart holds that no two lists or texts of all that is given share memory.
func apart(t *testing.T, all ...any) {
	t.Helper()
	var l []span
	for _, x := range all {
		l = append(l, spans(reflect.ValueOf(x))...)
	}
	slices.SortFunc(l, func(a, b span) int { return map[bool]int{true: -1, false: 1}[a.from < b.from] })
	for at := 1; at < len(l); at++ {
		if l[at-1].to > l[at].from {
			t.Fatalf("two share memory, of %d", len(l))
		}
	}
}

// ownMap, ownEpochs have each of their texts in memory of its own, and spare room
// behind each of their lists.

func ownMap(m [][]api.Row) [][]api.Row {
	var x [][]api.Row
	for _, rows := range m {
		var l []api.Row
		for _, r := range rows {
			l = append(l, api.Row{Key: strings.Clone(r.Key), Value: strings.Clone(r.Value)})
		}
		x = append(x, spared(l, api.Row{Key: "spare"}))
	}
	return spared(x, []api.Row{{Key: "spare"}})
}

func ownEpochs(l []api.Epoch) []api.Epoch {
	var x []api.Epoch
	for _, e := range l {
		var programs []api.Program
		for _, g := range e.Programs {
			var ops []api.Op
			for _, o := range g.Ops {
				o.Key, o.Value, o.Keys.Low, o.Keys.High = strings.Clone(o.Key), strings.Clone(o.Value), strings.Clone(o.Keys.Low), strings.Clone(o.Keys.High)
				ops = append(ops, o)
			}
			programs = append(programs, api.Program{Only: g.Only, Ops: spared(ops, get(1, "spare"))})
		}
		x = append(x, api.Epoch{Programs: spared(programs, prog(get(1, "spare"))), Picks: spared(e.Picks, 77), Crash: e.Crash, Keep: spared(e.Keep, 78)})
	}
	return spared(x, on([]int{77}, prog(get(1, "spare"))))
}

// spared is a copy, with one thing in its spare room.
func spared[T any](l []T, x T) []T { return append(slices.Clone(l), x)[:len(l)] }

// rooms are all that stands in spare room.
func rooms(m [][]api.Row, l []api.Epoch) []any {
	all := []any{m[:len(m)+1][len(m)], l[:len(l)+1][len(l)]}
	for _, rows := range m {
		all = append(all, rows[:len(rows)+1][len(rows)])
	}
	for _, e := range l {
		all = append(all, e.Programs[:len(e.Programs)+1][len(e.Programs)], e.Picks[:len(e.Picks)+1][len(e.Picks)], e.Keep[:len(e.Keep)+1][len(e.Keep)])
		for _, g := range e.Programs {
			all = append(all, g.Ops[:len(g.Ops)+1][len(g.Ops)])
		}
	}
	return all
}

// telling have answers of all kinds, of own writes, and of what others wrote; some
// err, some are cut.
func telling() []api.Epoch {
	e := on(turns(5, 7),
		prog(put(0, "a", "xyz"), get(0, "a"), insert(0, "d", "own"), scan(0, top(""), 9), commit()),
		reads(get(0, "a"), scan(0, top(""), 9), scan(1, top(""), 9), get(1, "x"), commit()),
		prog(get(1, "x"), put(1, "x", "new"), hold(1, "x"), down(1, top(""), 9), get(1, "x"), commit()),
		prog(get(0, "b"), scan(1, top(""), 9), put(0, "b", "open")))
	bad := on([]int{0, 1}, prog(get(2, "a")), prog(put(0, "a", "bad")))
	return epochs(e, look(), off(e, 7, 1, 0, 1), bad, off(e, 2, 1), look(), e)
}

func TestReportsShareNothing(t *testing.T) {
	for _, policy := range policies() {
		for group := 1; group <= api.MaxGroup; group++ {
			m, l := ownMap(two()), ownEpochs(telling())
			r := told(t, wide(policy, group), m, l)
			apart(t, m, l, r, told(t, wide(policy, group), m, l), told(t, wide(policy, group), m, l[:3]))
			// the same epoch, and the same map, many times
			e := ownEpochs(epochs(look()))[0]
			apart(t, m, e, told(t, wide(policy, group), m, slices.Repeat(epochs(e), 20)))
		}
	}
}

func TestInputsStayAsTheyAre(t *testing.T) {
	long := idle(21, 1)
	for _, like := range [][]api.Epoch{telling(), long, idle(1, 2001), nil, epochs(api.Epoch{})} {
		for _, c := range []api.Config{wide(api.PolicyCircle, 1), wide(api.PolicyDie, 3), {}, {Tables: 2, Locks: 1, Versions: 3, Group: 1, Policy: api.PolicyDie}} {
			m, l := ownMap(two()), ownEpochs(like)
			was := text(m, l, rooms(m, l))
			script.Run(c, m, l)
			script.Run(c, m, l)
			if text(m, l, rooms(m, l)) != was || text(m, l) != text(two(), like) {
				t.Errorf("%v, %v: not as it was", m, l)
			}
		}
	}
}

// spoil writes into all lists of a report, and behind their ends.
func spoil(r api.Report) {
	for i, m := range r.Maps {
		for at, rows := range m {
			_ = append(rows, api.Row{Key: "w"}, api.Row{Key: "w"})
			for k := range rows {
				rows[k] = api.Row{Key: "w", Value: "w"}
			}
			m[at] = nil
		}
		_ = append(m, nil, nil)
		r.Maps[i] = nil
	}
	for i, x := range r.Answers {
		for n, l := range x {
			for k, a := range l {
				_ = append(a.Rows, api.Row{Key: "w"}, api.Row{Key: "w"})
				for at := range a.Rows {
					a.Rows[at] = api.Row{Key: "w", Value: "w"}
				}
				l[k] = api.Answer{N: 99}
			}
			_ = append(l, api.Answer{N: 99}, api.Answer{N: 99})
			x[n] = nil
		}
		_ = append(x, nil, nil)
		r.Answers[i] = nil
	}
	_, _ = append(r.Maps, nil), append(r.Answers, nil)
}

// Whatever is written into one part of a report, the other parts, what was handed
// in, and what later calls tell, stay.
func TestWhoeverWritesChangesNothingElse(t *testing.T) {
	c := wide(api.PolicyDie, 2)
	m, l := ownMap(two()), ownEpochs(telling())
	want := told(t, c, two(), telling())
	for i := range l {
		r := told(t, c, m, l)
		spoil(api.Report{Answers: r.Answers[i : i+1 : i+1], Maps: r.Maps[i : i+1 : i+1]})
		for k := range l {
			if k != i && (text(r.Answers[k]) != text(want.Answers[k]) || text(r.Maps[k]) != text(want.Maps[k])) {
				t.Fatalf("%d behind %d: %v, %v", k, i, r.Answers[k], r.Maps[k])
			}
		}
		r = told(t, c, m, l)
		for n, x := range r.Answers[i] {
			spoil(api.Report{Answers: [][][]api.Answer{{slices.Clip(x)}}})
			for k, y := range r.Answers[i] {
				if k > n && text(y) != text(want.Answers[i][k]) {
					t.Fatalf("%d of %d behind %d: %v", k, i, n, y)
				}
			}
			if text(r.Maps) != text(want.Maps) {
				t.Fatalf("%v", r.Maps)
			}
		}
		spoil(r)
		if text(m, l) != text(two(), telling()) || text(told(t, c, m, l)) != text(want) {
			t.Fatalf("%d: %v, %v", i, m, l)
		}
	}
}

// Whatever is written into what was handed in, what was told stays.
func TestNothingIsKept(t *testing.T) {
	c := wide(api.PolicyCircle, 2)
	m, l := ownMap(two()), ownEpochs(telling())
	r := told(t, c, m, l)
	want := text(told(t, c, two(), telling()))
	m[0][0], m[1] = api.Row{Key: "w", Value: "w"}, nil
	for i := range l {
		for n := range l[i].Programs {
			l[i].Programs[n].Ops[0] = put(0, "w", "w")
			l[i].Programs[n] = prog()
		}
		l[i].Picks[0] = 99
		l[i] = api.Epoch{}
	}
	if text(r) != want {
		t.Errorf("%v, not %s", r, want)
	}
}

// The same call tells the same, whatever was told between.
func TestTheSameCallTellsTheSame(t *testing.T) {
	d := dice(10)
	for range 20 {
		c, m, l := d.config(), d.rows(), d.script(1+d.roll(8))
		r, e := script.Run(c, m, l)
		for range 3 {
			told(t, wide(api.PolicyDie, 1), two(), telling())
			script.Run(api.Config{}, nil, nil)
			if x, f := script.Run(c, ownMap(m), ownEpochs(l)); e != f || text(x) != text(r) {
				t.Fatalf("%v, %v: %v, %v, not %v, %v", c, l, f, x, e, r)
			}
		}
	}
}

// A nil list and an empty one are one.
func TestNilAndEmptyAreOne(t *testing.T) {
	for _, m := range [][][]api.Row{{nil, nil}, {{}, {}}, {make([]api.Row, 0, 5), nil}, make([][]api.Row, 2, 5)} {
		for _, e := range []api.Epoch{{Crash: -1}, {Programs: []api.Program{}, Picks: []int{}, Crash: -1, Keep: []int{}}, {Programs: make([]api.Program, 0, 3), Picks: make([]int, 0, 3), Crash: 1, Keep: make([]int, 0, 3)}} {
			r, _ := held(t, wide(api.PolicyCircle, 2), m, epochs(e, on(turns(4, 3), api.Program{}, api.Program{Ops: []api.Op{}}, api.Program{Only: true}), e))
			behind(t, r, 0, "[]", "[[] []]")
			behind(t, r, 1, "[[{0  0 []}] [{0  0 []}] [{0  0 []}]]", "[[] []]")
			behind(t, r, 2, "[]", "[[] []]")
		}
	}
}
