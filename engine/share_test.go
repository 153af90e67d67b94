package engine_test

import (
	"reflect"
	"slices"
	"strings"
	"testing"

	"quorum/api"
	"quorum/engine"
)

// R1, R2.

// span is where a list lies, its spare room, too, or a text.
type span struct{ from, to uintptr }

// spans are those of all lists and texts, all the way down.
func spans(v reflect.Value) []span {
	var l []span
	switch v.Kind() {
	case reflect.String:
		if v.Len() > 0 {
			from := uintptr(v.UnsafePointer())
			l = append(l, span{from, from + uintptr(v.Len())})
		}
	case reflect.Slice:
		if v.Cap() > 0 {
			l = append(l, span{v.Pointer(), v.Pointer() + uintptr(v.Cap())*v.Type().Elem().Size()})
		}
		for i := range v.Len() {
			l = append(l, spans(v.Index(i))...)
		}
	case reflect.Struct:
		for i := range v.NumField() {
			l = append(l, spans(v.Field(i))...)
		}
	case reflect.Pointer:
		l = spans(v.Elem())
	}
	return l
}

// apart holds that no two lists or texts of all that is given share memory.
func apart(t *testing.T, all ...any) {
	t.Helper()
	var l []span
	for _, x := range all {
		l = append(l, spans(reflect.ValueOf(x))...)
	}
	slices.SortFunc(l, func(a, b span) int {
		if a.from < b.from {
			return -1
		}
		return 1
	})
	for at := 1; at < len(l); at++ {
		if l[at-1].to > l[at].from {
			t.Fatalf("two share memory, of %d", len(l))
		}
	}
}

// ownMap, ownEpoch have each of their texts in memory of its own.

func ownMap(m [][]api.Row) [][]api.Row {
	var x [][]api.Row
	for _, rows := range m {
		var l []api.Row
		for _, r := range rows {
			l = append(l, api.Row{Key: strings.Clone(r.Key), Value: strings.Clone(r.Value)})
		}
		x = append(x, l)
	}
	return x
}

func ownEpoch(e api.Epoch) api.Epoch {
	var l []api.Program
	for _, g := range e.Programs {
		g.Ops = slices.Clone(g.Ops)
		for i, o := range g.Ops {
			o.Key, o.Value, o.Keys.Low, o.Keys.High = strings.Clone(o.Key), strings.Clone(o.Value), strings.Clone(o.Keys.Low), strings.Clone(o.Keys.High)
			g.Ops[i] = o
		}
		l = append(l, g)
	}
	return api.Epoch{Programs: l, Picks: slices.Clone(e.Picks), Crash: e.Crash, Keep: slices.Clone(e.Keep)}
}

// telling has answers of all kinds, of own writes, and of what others wrote.
func telling(crash int) api.Epoch {
	l := list(
		prog(put(0, "a", "xyz"), get(0, "a"), insert(0, "d", "own"), scan(0, top(""), 9), commit()),
		reads(get(0, "a"), scan(0, top(""), 9), scan(1, top(""), 9), get(1, "x"), commit()),
		prog(get(1, "x"), put(1, "x", "new"), hold(1, "x"), down(1, top(""), 9), get(1, "x"), commit()),
		prog(get(0, "b"), scan(1, top(""), 9), put(0, "b", "open")))
	return api.Epoch{Programs: l, Picks: turns(5, 7), Crash: crash, Keep: []int{1, 0, 1}}
}

func TestAnswersShareNothing(t *testing.T) {
	for _, crash := range []int{-1, 0, 3, 6, 7, 8, 9, 20} {
		for group := 1; group <= 3; group++ {
			m := ownMap(two())
			g, other := made(t, grouped(api.PolicyDie, group), m), made(t, grouped(api.PolicyDie, group), m)
			told := []any{m, g, other}
			tell := func(l ...any) { told = append(told, l...) }
			tell(g.Map(), g.Map(), g.Tape(), other.Map(), other.Tape())
			for range 3 {
				for _, e := range []api.Epoch{ownEpoch(telling(crash)), ownEpoch(some())} {
					tell(e, runs(t, g, e), g.Map(), g.Tape(), runs(t, other, e), other.Map(), other.Tape())
					if f := g.Restore(); f != api.OK {
						t.Fatalf("%v", f)
					}
					tell(g.Map(), g.Tape())
				}
			}
			apart(t, told...)
		}
	}
}

func TestInputsStayAsTheyAre(t *testing.T) {
	spare := prog(get(1, "spare"))
	for _, crash := range []int{-1, 0, 5, 7} {
		for _, like := range []api.Epoch{telling(crash), some(), {Programs: list(prog(get(5, "a"))), Picks: []int{0, -1, 9}}, {Programs: make([]api.Program, 9), Picks: []int{1}, Keep: []int{2}}} {
			m := ownMap(two())
			for i, rows := range m {
				m[i] = append(slices.Grow(rows, 2), api.Row{Key: "spare"}, api.Row{Key: "spare"})[:len(rows)]
			}
			m = append(m, []api.Row{{Key: "spare"}})[:2]
			e := ownEpoch(like)
			e.Programs = append(slices.Grow(e.Programs, 1), spare)[:len(e.Programs)]
			e.Picks = append(slices.Grow(e.Picks, 1), 77)[:len(e.Picks)]
			e.Keep = append(slices.Grow(e.Keep, 1), 78)[:len(e.Keep)]
			for i, g := range e.Programs {
				e.Programs[i].Ops = append(slices.Grow(g.Ops, 1), save())[:len(g.Ops)]
			}
			g := made(t, grouped(api.PolicyCircle, 2), m)
			g.Run(e)
			g.Run(e)
			if text(m, e) != text(two(), like) || text(m[:3][2], m[0][:5][3:], m[1][:3][1:]) != "[{spare }] [{spare } {spare }] [{spare } {spare }]" {
				t.Errorf("%v, %v", m, e)
			}
			if n := len(e.Programs); text(e.Programs[:n+1][n]) != text(spare) || e.Picks[:len(e.Picks)+1][len(e.Picks)] != 77 || e.Keep[:len(e.Keep)+1][len(e.Keep)] != 78 {
				t.Errorf("%v", e)
			}
			for _, g := range e.Programs {
				if n := len(g.Ops); g.Ops[:n+1][n] != save() {
					t.Errorf("%v", g)
				}
			}
		}
	}
}

// Whatever is written into what was handed in, or told, nothing changes.
func TestNothingIsKept(t *testing.T) {
	for _, crash := range []int{-1, 4, 7} {
		m := two()
		g := made(t, grouped(api.PolicyDie, 2), m)
		p := pair{g: g}
		p.v, _ = newLive(grouped(api.PolicyDie, 2), two())
		m[0][0], m[1] = api.Row{Key: "w", Value: "w"}, nil
		p.alike(t)
		for range 3 {
			e := telling(crash)
			a := runs(t, g, e)
			want, _ := p.v.run(telling(crash))
			for i := range e.Programs {
				for k := range e.Programs[i].Ops {
					e.Programs[i].Ops[k] = put(0, "w", "w")
				}
			}
			e.Programs[0], e.Picks[0] = prog(), 99
			e.Keep[0] = 0
			if text(a) != text(want) {
				t.Fatalf("%v, not %v", a, want)
			}
			p.alike(t)
			x, y := g.Map(), g.Tape()
			for i, rows := range x {
				_ = append(rows, api.Row{Key: "w"}, api.Row{Key: "w"})
				x[i] = append(rows[:0], api.Row{Key: "w", Value: "w"})
			}
			for i := range y.Sectors {
				y.Sectors[i] = "w"
			}
			y.Waits = append(y.Waits, api.Put{At: 1, Text: long(api.Sector)})
			for i := range a {
				_ = append(a[i], api.Answer{N: 99})
				for k, b := range a[i] {
					_ = append(b.Rows, api.Row{Key: "w"})
					if len(b.Rows) > 0 {
						b.Rows[0] = api.Row{Key: "w", Value: "w"}
					}
					a[i][k] = api.Answer{N: 99}
				}
			}
			p.alike(t)
			p.restored(t)
		}
	}
}

// Two engines have nothing in common; the same calls tell the same.
func TestTwoEngines(t *testing.T) {
	d := dice(7)
	for range 30 {
		c, m := d.config(), d.rows()
		l := []*engine.Engine{made(t, c, m), made(t, c, m), made(t, c, m)}
		other := made(t, grouped(api.PolicyCircle, 1), two())
		for range 3 {
			e := d.epoch()
			e.Crash = d.roll(16) - 1
			var told []string
			for _, g := range l {
				a, f := g.Run(e)
				told = append(told, text(a, f, g.Map(), g.Picks(), g.Tape()))
				runs(t, other, some())
			}
			if told[0] != told[1] || told[1] != told[2] {
				t.Fatalf("%v", e)
			}
		}
		if n := other.Picks(); n != 9*len(some().Picks) || text(other.Map()) != someBehind {
			t.Fatalf("%d, %v", n, other.Map())
		}
	}
}

// A nil list and an empty one are one.
func TestNilAndEmptyAreOne(t *testing.T) {
	for _, m := range [][][]api.Row{{nil, nil}, {{}, {}}, {make([]api.Row, 0, 5), nil}, make([][]api.Row, 2, 5)} {
		for _, e := range []api.Epoch{
			{Crash: -1}, {Programs: []api.Program{}, Picks: []int{}, Crash: -1, Keep: []int{}}, {Programs: make([]api.Program, 0, 3), Picks: make([]int, 0, 3), Crash: 1, Keep: make([]int, 0, 3)},
			{Programs: []api.Program{{}, {Ops: []api.Op{}}, {Only: true}}, Picks: turns(4, 3), Crash: -1},
		} {
			p := paired(t, grouped(api.PolicyCircle, 2), m)
			p.run(t, e)
			p.restored(t)
			is(t, p.g, "[[] []]", p.v.picks)
		}
	}
}
