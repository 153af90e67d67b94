package order_test

import (
	"reflect"
	"slices"
	"testing"

	"quorum/api"
	"quorum/order"
	"quorum/step"
)

// R1, R2.

// span is where a list lies, its spare room, too.
type span struct{ from, to uintptr }

// spans are those of all lists, all the way down.
func spans(v reflect.Value) []span {
	var l []span
	switch v.Kind() {
	case reflect.Slice:
		if size := v.Type().Elem().Size(); v.Cap() > 0 && size > 0 {
			l = append(l, span{v.Pointer(), v.Pointer() + uintptr(v.Cap())*size})
		}
		for i := range v.Len() {
			l = append(l, spans(v.Index(i))...)
		}
	case reflect.Struct:
		for i := range v.NumField() {
			l = append(l, spans(v.Field(i))...)
		}
	}
	return l
}

// apart holds that no two lists of all that is given share memory.
func apart(t *testing.T, all ...any) {
	t.Helper()
	var l []span
	for _, x := range all {
		l = append(l, spans(reflect.ValueOf(x))...)
	}
	slices.SortFunc(l, func(a, b span) int {
		if a.from < b.from {
			return -1
		}
		return 1
	})
	for at := 1; at < len(l); at++ {
		if l[at-1].to > l[at].from {
			t.Fatalf("two lists share memory: %s", text(all...))
		}
	}
}

func all() []func(t *testing.T) api.State {
	return []func(t *testing.T) api.State{rich, late, full}
}

func TestAnswersShareNothing(t *testing.T) {
	for _, of := range all() {
		s := of(t)
		told := []any{s}
		for range 2 {
			l, _ := order.Serial(s)
			m, _ := order.Map(s)
			told = append(told, l, m)
		}
		apart(t, told...)
	}
}

// roomy has each list with spare room, in which something stands.
func roomy(v reflect.Value) {
	switch v.Kind() {
	case reflect.Slice:
		more := reflect.MakeSlice(v.Type(), v.Len()+3, v.Len()+3)
		reflect.Copy(more, v)
		for i := v.Len(); i < more.Len(); i++ {
			mark(more.Index(i))
		}
		for i := range v.Len() {
			roomy(more.Index(i))
		}
		v.Set(more.Slice(0, v.Len()))
	case reflect.Struct:
		for i := range v.NumField() {
			roomy(v.Field(i))
		}
	}
}

func mark(v reflect.Value) {
	switch v.Kind() {
	case reflect.Int:
		v.SetInt(77)
	case reflect.String:
		v.SetString("spare")
	case reflect.Struct:
		for i := range v.NumField() {
			mark(v.Field(i))
		}
	}
}

// room is all lists with their spare room.
func room(v reflect.Value) string {
	x := ""
	switch v.Kind() {
	case reflect.Slice:
		all := v.Slice(0, v.Cap())
		x += text(all.Interface())
		for i := range all.Len() {
			x += room(all.Index(i))
		}
	case reflect.Struct:
		for i := range v.NumField() {
			x += room(v.Field(i))
		}
	}
	return x
}

func TestSpareRoomStays(t *testing.T) {
	for _, of := range all() {
		for _, m := range [][][]api.Row{two(), bare(), mapOf(of(t))} {
			s := of(t)
			roomy(reflect.ValueOf(&s).Elem())
			roomy(reflect.ValueOf(&m).Elem())
			was, wasMap := room(reflect.ValueOf(s)), room(reflect.ValueOf(m))
			held(t, s, m)
			if room(reflect.ValueOf(s)) != was || room(reflect.ValueOf(m)) != wasMap {
				t.Errorf("%s, %v", text(s), m)
			}
		}
	}
}

// Nothing is kept: what is changed behind a call is told anew by the next one,
// and what was told stays; and whoever writes into what was told changes nothing.
func TestNothingIsKept(t *testing.T) {
	s := full(t)
	l, _ := order.Serial(s)
	m, _ := order.Map(s)
	wasOrder, wasMap, was := text(l), text(m), text(s)
	s.Tables[0].Rows[2].List[0].Value = "q"
	s.Sessions[1].Commit, s.Sessions[3].Commit = 3, 2
	if text(l) != wasOrder || text(m) != wasMap {
		t.Errorf("%v, %v", l, m)
	}
	held(t, s, two())
	s.Tables[0].Rows[2].List[0].Value = "3"
	s.Sessions[1].Commit, s.Sessions[3].Commit = 2, 3
	l[0], m[0][0].Value, m[1][0].Key = 9, "w", "w"
	_, m[0] = append(l, 7), append(m[0], api.Row{Key: "zz"})
	if text(s) != was || !held(t, s, two()) {
		t.Errorf("%s", text(s))
	}
}

// The same call tells the same.
func TestTheSameCall(t *testing.T) {
	for _, of := range all() {
		s := of(t)
		for range 5 {
			held(t, s, two())
			held(t, s, bare())
		}
	}
}

// A nil list and an empty one are one.
func TestEmptyLists(t *testing.T) {
	g := api.Program{Ops: []api.Op{scan(0, top(""), 9), commit()}}
	for _, m := range [][][]api.Row{{nil, nil}, {{}, {}}, {nil, {}}} {
		s := picks(t, m, made(t, wide(api.PolicyDie), m, g, reads(g.Ops...), prog()), 0, 0, 1, 1)
		for _, l := range [][]api.Row{nil, {}} {
			s.Sessions[0].Answers[0].Rows, s.Sessions[1].Answers[1].Rows = l, l
			s.Tables[0].Rows = []api.Chain{}
			fit(t, "empty", s, m, true)
			fit(t, "empty, and bare", s, bare(), true)
		}
	}
	for _, l := range [][]api.Program{nil, {}} {
		s, e := step.New(wide(api.PolicyDie), l, bare())
		s.Sessions, s.Queue = []api.Session{}, []int{}
		if e != api.OK || !held(t, s, [][]api.Row{{}, {}}) {
			t.Errorf("%v, %s", e, text(s))
		}
	}
}
