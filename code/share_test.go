package code_test

import (
	"fmt"
	"reflect"
	"slices"
	"strings"
	"testing"

	"quorum/api"
	"quorum/code"
)

// R1, R2.

// span is where a list lies, its spare room, too, or a text.
type span struct{ from, to uintptr }

// spans are those of all lists and texts, all the way down.
func spans(v reflect.Value) []span {
	var l []span
	switch v.Kind() {
	case reflect.String:
		if v.Len() > 0 {
			from := uintptr(v.UnsafePointer())
			l = append(l, span{from, from + uintptr(v.Len())})
		}
	case reflect.Slice:
		if v.Cap() > 0 {
			l = append(l, span{v.Pointer(), v.Pointer() + uintptr(v.Cap())*v.Type().Elem().Size()})
		}
		for i := range v.Len() {
			l = append(l, spans(v.Index(i))...)
		}
	case reflect.Struct:
		for i := range v.NumField() {
			l = append(l, spans(v.Field(i))...)
		}
	}
	return l
}

// apart holds that no two lists or texts of all that is given share memory.
func apart(t *testing.T, all ...any) {
	t.Helper()
	var l []span
	for _, x := range all {
		l = append(l, spans(reflect.ValueOf(x))...)
	}
	slices.SortFunc(l, func(a, b span) int {
		if a.from < b.from {
			return -1
		}
		return 1
	})
	for at := 1; at < len(l); at++ {
		if l[at-1].to > l[at].from {
			t.Fatalf("two share memory: %q", all)
		}
	}
}

// own is r with each of its texts in memory of its own.
func own(r api.Record) api.Record {
	x := api.Record{Commit: r.Commit}
	for _, w := range r.Writes {
		w.Key, w.Value = strings.Clone(w.Key), strings.Clone(w.Value)
		x.Writes = append(x.Writes, w)
	}
	return x
}

func TestAnswersShareNothing(t *testing.T) {
	for _, like := range []api.Record{of(1), double(), triple(), mixed(5, 20), full(api.MaxRooms)} {
		r := own(like)
		told := []any{r}
		var all []string
		for i := range 2 {
			s, _ := code.Bytes(r)
			l, _ := code.Sectors(r, 1, 3+i)
			told = append(told, s, l)
			all = append(all, l...)
			for range 2 {
				x, _ := code.Take(s)
				told = append(told, x)
			}
		}
		for range 2 {
			x, _, _ := code.Read(all, 1, 3)
			if len(x) != 2 {
				t.Fatalf("%v", x)
			}
			told = append(told, x)
		}
		apart(t, told...)
	}
}

// The spare room of what is handed in stays, too.
func TestHandedInStaysAsItIs(t *testing.T) {
	spare := put(2, "spare", "room")
	for _, like := range append(records(), badRecords()...) {
		r := own(like)
		r.Writes = append(slices.Grow(r.Writes, 2), spare, spare)[:len(like.Writes)]
		l := append(slices.Grow(recordSectors(like, 1, 2), 2), "spare", "room")
		texts := slices.Clone(l)
		held(t, r)
		for range 2 {
			code.Read(l[:len(l)-2], 1, 2)
			code.Read(l, 1, 2)
			code.Read(l, 1, -1)
		}
		if !same(r, like) || !slices.Equal(r.Writes[:len(r.Writes)+2], append(slices.Clone(like.Writes), spare, spare)) || !slices.Equal(l, texts) {
			t.Errorf("%v, not %v; %q, not %q", r, like, l, texts)
		}
	}
}

// Nothing is kept: what is changed behind a call is told anew by the next one,
// what was told stays, and whoever writes into it, or appends to it, changes
// nothing else.
func TestNothingIsKept(t *testing.T) {
	r := double()
	l, _ := code.Sectors(r, theRun, theNumber)
	s, _ := code.Bytes(r)
	x, _ := code.Take(s)
	both, _, _ := code.Read(slices.Concat(l, recordSectors(triple(), theRun, theNumber+1)), theRun, theNumber)
	r.Commit, r.Writes[0], r.Writes[1].Key = 77, put(0, "new", "new"), "other"
	held(t, r)
	if s != recordBytes(double()) || !slices.Equal(l, recordSectors(double(), theRun, theNumber)) || !same(x, double()) {
		t.Errorf("%q, %q, %v", s, l, x)
	}
	l[0] = "overwritten"
	_ = append(l, "more")
	if !sameAll(both, []api.Record{double(), triple()}) {
		t.Errorf("%v", both)
	}
	both[0].Writes[0] = put(0, "w", "w")
	both[0].Writes = append(both[0].Writes, put(0, "w", "w"))
	_ = append(both[:1], of(9))
	x.Writes[2].Key = "w"
	_ = append(x.Writes, put(0, "w", "w"))
	if y, e := code.Take(s); !same(y, double()) || e != api.OK {
		t.Errorf("%v, %v", y, e)
	}
	reads(t, "anew", log(double(), triple()), []api.Record{double(), triple()}, 5)
}

// The writes of one record that is told aren't reached from another one's.
func TestRoomBehindWrites(t *testing.T) {
	all := []api.Record{double(), single(), triple(), even()}
	x, _, _ := code.Read(log(all...), theRun, theNumber)
	for i := range x {
		_ = append(x[i].Writes, put(0, "w", "w"), put(0, "w", "w"))
	}
	if !sameAll(x, all) {
		t.Errorf("%v", x)
	}
}

// The same call tells the same.
func TestTheSameCall(t *testing.T) {
	tell := func(r api.Record, l []string) string {
		s, e := code.Bytes(r)
		x, f := code.Take(s)
		y, g := code.Sectors(r, 1, 2)
		z, many, h := code.Read(l, theRun, theNumber)
		return fmt.Sprintf("%q %v %q %v %d %v", s, x, y, z, many, []api.Errno{code.Check(r), e, f, g, h})
	}
	l := log(double(), triple(), single())
	for _, r := range append(records(), badRecords()...) {
		want := tell(r, l)
		for range 3 {
			if got := tell(r, l); got != want {
				t.Fatalf("%s, not %s", got, want)
			}
		}
	}
}

// A nil list and an empty one are one.
func TestNilAndEmptyAreOne(t *testing.T) {
	for _, writes := range [][]api.Write{nil, {}, make([]api.Write, 0, 5)} {
		r := api.Record{Commit: 3, Writes: writes}
		held(t, r)
		l, _ := code.Sectors(r, 1, 2)
		if s, e := code.Bytes(r); s != "\x00\x00\x00\x03\x00\x00\x00\x00" || e != api.OK || len(l) != 1 {
			t.Errorf("%q, %v, %q", s, e, l)
		}
		held(t, api.Record{Writes: writes})
	}
	for _, l := range [][]string{nil, {}, make([]string, 0, 5)} {
		reads(t, "nothing", l, nil, 0)
	}
}
