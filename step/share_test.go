package step_test

import (
	"reflect"
	"slices"
	"testing"

	"quorum/api"
	"quorum/step"
)

// R1, R2.

// span is where a list lies, its spare room, too.
type span struct{ from, to uintptr }

// spans are those of all lists, all the way down.
func spans(v reflect.Value) []span {
	var l []span
	switch v.Kind() {
	case reflect.Slice:
		if size := v.Type().Elem().Size(); v.Cap() > 0 && size > 0 {
			l = append(l, span{v.Pointer(), v.Pointer() + uintptr(v.Cap())*size})
		}
		for i := range v.Len() {
			l = append(l, spans(v.Index(i))...)
		}
	case reflect.Struct:
		for i := range v.NumField() {
			l = append(l, spans(v.Field(i))...)
		}
	}
	return l
}

// apart holds that no two lists of all that is given share memory.
func apart(t *testing.T, all ...any) {
	t.Helper()
	var l []span
	for _, x := range all {
		l = append(l, spans(reflect.ValueOf(x))...)
	}
	slices.SortFunc(l, func(a, b span) int {
		if a.from < b.from {
			return -1
		}
		return 1
	})
	for at := 1; at < len(l); at++ {
		if l[at-1].to > l[at].from {
			t.Fatalf("two lists share memory: %s", text(all...))
		}
	}
}

func TestAnswersShareNothing(t *testing.T) {
	l, m := list(prog(put(0, "a", ""), commit()), reads(get(0, "a"))), two()
	s, _ := step.New(wide(api.PolicyDie), l, m)
	x, _ := step.New(wide(api.PolicyDie), l, m)
	apart(t, l, m, s, x)
	for _, of := range []func(t *testing.T) api.State{rich, late} {
		s := of(t)
		told := []any{s}
		for n := range len(s.Programs) + 1 {
			x, _ := step.Pick(s, n)
			y, _ := step.Pick(s, n)
			told = append(told, x, y)
		}
		x, _ := step.Flush(s)
		y, _ := step.Flush(s)
		apart(t, append(told, x, y)...)
	}
	// all along a way to its end
	for _, l := range families() {
		for _, policy := range policies() {
			s := made(t, grouped(policy, 2), l...)
			for range 8 {
				for n := range len(l) + 1 {
					x, _ := step.Pick(s, n)
					apart(t, s, x)
					s = x
				}
			}
		}
	}
}

// roomy has each list with spare room, in which something stands.
func roomy(v reflect.Value) {
	switch v.Kind() {
	case reflect.Slice:
		more := reflect.MakeSlice(v.Type(), v.Len()+3, v.Len()+3)
		reflect.Copy(more, v)
		for i := v.Len(); i < more.Len(); i++ {
			mark(more.Index(i))
		}
		for i := range v.Len() {
			roomy(more.Index(i))
		}
		v.Set(more.Slice(0, v.Len()))
	case reflect.Struct:
		for i := range v.NumField() {
			roomy(v.Field(i))
		}
	}
}

func mark(v reflect.Value) {
	switch v.Kind() {
	case reflect.Int:
		v.SetInt(77)
	case reflect.String:
		v.SetString("spare")
	case reflect.Struct:
		for i := range v.NumField() {
			mark(v.Field(i))
		}
	}
}

// room is all lists with their spare room.
func room(v reflect.Value) string {
	x := ""
	switch v.Kind() {
	case reflect.Slice:
		all := v.Slice(0, v.Cap())
		x += text(all.Interface())
		for i := range all.Len() {
			x += room(all.Index(i))
		}
	case reflect.Struct:
		for i := range v.NumField() {
			x += room(v.Field(i))
		}
	}
	return x
}

func TestSpareRoomStays(t *testing.T) {
	for _, of := range []func(t *testing.T) api.State{rich, late} {
		s := of(t)
		for n := range len(s.Programs) + 1 {
			x := of(t)
			roomy(reflect.ValueOf(&x).Elem())
			was := room(reflect.ValueOf(x))
			picked(t, x, n)
			if room(reflect.ValueOf(x)) != was {
				t.Errorf("%d: %s", n, text(x))
			}
		}
	}
	l, m := list(prog(put(0, "a", ""), commit()), reads(get(0, "a"))), two()
	roomy(reflect.ValueOf(&l).Elem())
	roomy(reflect.ValueOf(&m).Elem())
	was, wasMap := room(reflect.ValueOf(l)), room(reflect.ValueOf(m))
	picks(t, madeOf(t, wide(api.PolicyDie), m, l...), 0, 0, 1, 2)
	if room(reflect.ValueOf(l)) != was || room(reflect.ValueOf(m)) != wasMap {
		t.Errorf("%v, %v", l, m)
	}
}

// Nothing is kept: what is changed behind a call is told anew by the next one,
// and what was told stays.
func TestNothingIsKept(t *testing.T) {
	l, m := list(prog(put(0, "a", "x"), commit())), two()
	s, _ := step.New(wide(api.PolicyDie), l, m)
	l[0].Ops[0].Key, m[0][0].Value = "q", "7"
	if text(s) != text(made(t, wide(api.PolicyDie), prog(put(0, "a", "x"), commit()))) {
		t.Errorf("%s", text(s))
	}
	x, _ := step.Pick(s, 0)
	was := text(x)
	s.Programs[0].Ops[0].Value = "y"
	s.Tables[0].Rows[1].List[0].Value = "8"
	s.Log[0].Writes[0].Key = "aa"
	if text(x) != was {
		t.Errorf("%s", text(x))
	}
	y := picked(t, s, 0)
	if text(y.Sessions[0].Pend.List) != "[{0 a y false}]" || y.Log[0].Writes[0].Key != "aa" {
		t.Errorf("%s", text(y))
	}
}

// The same call tells the same.
func TestTheSameCall(t *testing.T) {
	for _, of := range []func(t *testing.T) api.State{rich, late} {
		s := of(t)
		for n := range len(s.Programs) + 1 {
			was := text(picked(t, s, n))
			for range 3 {
				if x, e := step.Pick(s, n); e != api.OK || text(x) != was {
					t.Errorf("%d: %v, %s, not %s", n, e, text(x), was)
				}
			}
		}
	}
}

// A nil list and an empty one are one.
func TestEmptyLists(t *testing.T) {
	m := [][]api.Row{{}, nil}
	s := madeOf(t, wide(api.PolicyDie), m, api.Program{Ops: []api.Op{}}, reads(), prog(commit()))
	filled := s
	filled.Locks, filled.Queue, filled.Log = []api.Lock{}, []int{}, []api.Record{}
	filled.Sessions = slices.Clone(s.Sessions)
	for n := range filled.Sessions {
		filled.Sessions[n].Answers, filled.Sessions[n].Pend = []api.Answer{}, api.Pend{List: []api.Write{}, Marks: []int{}}
	}
	filled.Tables = []api.Table{{Rows: []api.Chain{}}, {}}
	for _, n := range []int{0, 1, 2, 3} {
		x, e := step.Pick(s, n)
		y, f := step.Pick(filled, n)
		if e != api.OK || f != api.OK || text(x) != text(y) || step.Check(filled) != api.OK {
			t.Errorf("%d: %v, %v, %s, %s", n, e, f, text(x), text(y))
		}
	}
	for _, l := range [][]api.Program{nil, {}} {
		s, e := step.New(wide(api.PolicyDie), l, m)
		if x, f := step.Pick(s, 0); e != api.OK || f != api.OK || text(x) != text(s) {
			t.Errorf("%v, %v, %s", e, f, text(s))
		}
	}
}
