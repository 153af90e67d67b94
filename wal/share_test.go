package wal_test

import (
	"fmt"
	"reflect"
	"slices"
	"strings"
	"testing"

	"quorum/api"
	"quorum/wal"
)

// R1, R2.

// span is where a list lies, its spare room, too, or a text.
type span struct{ from, to uintptr }

// spans are those of all lists and texts, all the way down.
func spans(v reflect.Value) []span {
	var l []span
	switch v.Kind() {
	case reflect.String:
		if v.Len() > 0 {
			from := uintptr(v.UnsafePointer())
			l = append(l, span{from, from + uintptr(v.Len())})
		}
	case reflect.Slice:
		if v.Cap() > 0 {
			l = append(l, span{v.Pointer(), v.Pointer() + uintptr(v.Cap())*v.Type().Elem().Size()})
		}
		for i := range v.Len() {
			l = append(l, spans(v.Index(i))...)
		}
	case reflect.Struct:
		for i := range v.NumField() {
			l = append(l, spans(v.Field(i))...)
		}
	}
	return l
}

// apart holds that no two lists or texts of all that is given share memory.
func apart(t *testing.T, all ...any) {
	t.Helper()
	var l []span
	for _, x := range all {
		l = append(l, spans(reflect.ValueOf(x))...)
	}
	slices.SortFunc(l, func(a, b span) int {
		if a.from < b.from {
			return -1
		}
		return 1
	})
	for at := 1; at < len(l); at++ {
		if l[at-1].to > l[at].from {
			t.Fatalf("two share memory, of:%s", short(all...))
		}
	}
}

// own, ownRecords and ownTape have each of their texts in memory of its own.

func own(m [][]api.Row) [][]api.Row {
	var x [][]api.Row
	for _, rows := range m {
		var l []api.Row
		for _, r := range rows {
			l = append(l, row(strings.Clone(r.Key), strings.Clone(r.Value)))
		}
		x = append(x, l)
	}
	return x
}

func ownRecords(l []api.Record) []api.Record {
	var x []api.Record
	for _, r := range l {
		r.Writes = slices.Clone(r.Writes)
		for i, w := range r.Writes {
			r.Writes[i].Key, r.Writes[i].Value = strings.Clone(w.Key), strings.Clone(w.Value)
		}
		x = append(x, r)
	}
	return x
}

func ownTape(x api.Tape) api.Tape {
	var y api.Tape
	for _, s := range x.Sectors {
		y.Sectors = append(y.Sectors, strings.Clone(s))
	}
	return y
}

func someRecords() []api.Record {
	return []api.Record{of(2, put(0, "a", "new"), put(0, "c", "z"), gone(1, "x")), of(3), heavy(4, 50), of(5, put(0, "a", "newer"), put(1, "y", strings.Repeat("y", api.MaxValue)))}
}

func TestAnswersShareNothing(t *testing.T) {
	for _, like := range [][][]api.Row{{nil, nil}, two(), {rows(30), rows(34)}, {mixed(64), nil}} {
		m, records := own(like), ownRecords(someRecords())
		told := []any{m, records}
		tell := func(x any) { told = append(told, x) }
		for _, w := range []api.Wal{{Run: 1, At: api.LogAt, Seq: 1}, {Run: 1, At: api.LogAt, Seq: 1}, {Run: 2, Slot: 1, At: 400, Seq: 9}} {
			l, _, _ := wal.Format(m)
			k, _, _ := wal.Save(w, m)
			tell(l)
			tell(k)
			for _, r := range records {
				n, _, _ := wal.Add(w, r)
				tell(n)
			}
		}
		made, _ := made(t, 2, like, someRecords()...)
		x := ownTape(made)
		tell(x)
		for tables := range 4 {
			y, l, _, _ := wal.Open(x, tables)
			tell(y)
			tell(l)
		}
		for n := range len(records) + 1 {
			y, _ := wal.Map(m, records[:n]...)
			z, _ := wal.Map(m, records[n:]...)
			tell(y)
			tell(z)
		}
		apart(t, told...)
	}
}

// spared has spare room behind each list, with other things in it.
func spared(m [][]api.Row) [][]api.Row {
	x := slices.Grow(own(m), 2)
	for t, rows := range x {
		x[t] = append(slices.Grow(rows, 2), row("spare", "room"), row("spare", "room"))[:len(rows)]
	}
	return append(x, []api.Row{row("spare", "room")}, nil)[:len(m)]
}

func sparedIsThere(m [][]api.Row) bool {
	for _, rows := range m {
		if n := len(rows); !slices.Equal(rows[n:n+2], []api.Row{row("spare", "room"), row("spare", "room")}) {
			return false
		}
	}
	return sameMap(m[len(m):len(m)+2], [][]api.Row{{row("spare", "room")}, nil})
}

// The spare room of what is handed in stays, too.
func TestMapsStayAsTheyAre(t *testing.T) {
	for _, like := range slices.Concat(goodMaps()[:40], fullMaps(), badMaps()) {
		m := spared(like)
		wal.Format(m)
		for _, w := range append(badWals(), api.Wal{Run: 1, At: api.LogAt, Seq: 1}, api.Wal{Run: api.MaxNum - 1, At: api.LogAt, Seq: 1}) {
			wal.Save(w, m)
		}
		wal.Map(m)
		wal.Map(m, someRecords()...)
		wal.Map(m, badRecords()[0])
		if !sameMap(m, like) || !sparedIsThere(m) {
			t.Errorf("of told, not:%s", short(m, like))
		}
	}
}

func TestRecordsStayAsTheyAre(t *testing.T) {
	spare := put(2, "spare", "room")
	for _, like := range append(goodRecords(), badRecords()...) {
		r := ownRecords([]api.Record{like})[0]
		r.Writes = append(slices.Grow(r.Writes, 2), spare, spare)[:len(like.Writes)]
		l := append(slices.Grow([]api.Record{r, r}, 2), of(7), of(8))
		for _, m := range [][][]api.Row{nil, two(), {nil, nil, nil}, badMaps()[0]} {
			wal.Map(m, l[:2]...)
			wal.Map(m, l[0])
		}
		for _, w := range append(badWals(), api.Wal{Run: 1, At: api.LogAt, Seq: 1}, api.Wal{Run: 1, At: api.MaxTape, Seq: 1}) {
			wal.Add(w, r)
		}
		if !sameRecord(r, like) || !slices.Equal(r.Writes[:len(r.Writes)+2], append(slices.Clone(like.Writes), spare, spare)) || !sameRecords(l, []api.Record{like, like, of(7), of(8)}) {
			t.Errorf("%v, not %v", l, like)
		}
	}
}

func TestTapesStayAsTheyAre(t *testing.T) {
	good, _ := made(t, 2, two(), someRecords()...)
	for _, like := range []api.Tape{good, with(good, 0, strings.Repeat("x", api.Sector)), with(good, api.SlotB, strings.Repeat("x", api.Sector)), with(good, 9, "x"), empty(t), {}, {Sectors: good.Sectors[:9]}} {
		x := ownTape(like)
		x.Sectors = append(slices.Grow(x.Sectors, 2), "spare", "room")[:len(like.Sectors)]
		x.Waits = append(slices.Grow(x.Waits, 2), api.Put{At: 1, Text: "spare"})[:0]
		for tables := range 5 {
			wal.Open(x, tables)
		}
		if !slices.Equal(x.Sectors[:len(x.Sectors)+2], append(slices.Clone(like.Sectors), "spare", "room")) || x.Waits[:1][0] != (api.Put{At: 1, Text: "spare"}) {
			t.Errorf("of told, not:%s", short(x, like))
		}
	}
}

// Nothing is kept: what is changed behind a call is told anew by the next one,
// what was told stays, and whoever writes into it, or appends to it, changes
// nothing else.
func TestNothingIsKept(t *testing.T) {
	m, records := own(two()), ownRecords(someRecords())
	l, w, _ := wal.Format(m)
	want, _, _ := formatted(two())
	behind, _ := wal.Map(m, records...)
	wantBehind, _ := mapped(two(), someRecords()...)
	x, _ := made(t, 1, m, records...)
	told, logged, _, _ := wal.Open(x, 2)
	m[0][0], m[1] = row("w", "w"), []api.Row{row("w", "w")}
	records[0].Writes[0], records[1] = put(0, "w", "w"), of(9, put(0, "w", "w"))
	x.Sectors[api.SlotA], x.Sectors[api.LogAt] = strings.Repeat("w", api.Sector), strings.Repeat("w", api.Sector)
	if !slices.Equal(l, want) || !sameMap(behind, wantBehind) || !sameMap(told, two()) || !sameRecords(logged, someRecords()) {
		t.Errorf("%s", short(l, behind, told, logged))
	}
	formats(t, m)
	saves(t, w, m)
	adds(t, w, records[0])
	leadsTo(t, m)
	opens(t, x, 2)
	again, _ := wal.Map(two(), someRecords()...)
	for i, rows := range behind {
		_ = append(rows, row("more", ""), row("more", ""))
		behind[i] = append(rows[:0], row("w", "w"))
	}
	l[0].Put.At, logged[0].Writes[0].Key = 99, "w"
	_, _ = append(l, api.Do{}), append(logged[0].Writes, put(0, "more", ""))
	if !sameMap(again, wantBehind) || !sameRecord(logged[2], someRecords()[2]) {
		t.Errorf("%s", short(again, logged))
	}
	formats(t, two())
}

// The rows of one table that is told, or the writes of one record, aren't reached
// from another one's.
func TestRoomBehindRows(t *testing.T) {
	m := [][]api.Row{rows(5), rows(3), rows(6)}
	x, _ := made(t, 1, m, someRecords()...)
	opened, l, _, _ := wal.Open(x, 3)
	mapped, _ := wal.Map(m, of(1, put(0, "a", "v")), of(2, gone(0, "a")))
	for _, told := range [][][]api.Row{opened, mapped} {
		for i := range told {
			_ = append(told[i], row("w", "w"), row("w", "w"), row("w", "w"))
		}
		if !sameMap(told, m) {
			t.Errorf("%v", told)
		}
	}
	for i := range l {
		_ = append(l[i].Writes, put(0, "w", "w"), put(0, "w", "w"))
	}
	if !sameRecords(l, someRecords()) {
		t.Errorf("%v", l)
	}
}

// The same call tells the same.
func TestTheSameCall(t *testing.T) {
	x, w := made(t, 2, two(), someRecords()...)
	tell := func(m [][]api.Row, r api.Record) string {
		a, b, c := wal.Format(m)
		d, e, f := wal.Save(w, m)
		g, h, i := wal.Add(w, r)
		j, k, l, n := wal.Open(x, 2)
		o, p := wal.Map(m, r, r)
		return fmt.Sprint(a, b, c, d, e, f, g, h, i, j, k, l, n, o, p)
	}
	for i, m := range slices.Concat(goodMaps()[:40], fullMaps(), badMaps()) {
		for _, r := range []api.Record{goodRecords()[i%len(goodRecords())], badRecords()[i%len(badRecords())]} {
			want := tell(m, r)
			for range 3 {
				if got := tell(m, r); got != want {
					t.Fatalf("%s, not %s", got, want)
				}
			}
		}
	}
}

// A nil list and an empty one are one.
func TestNilAndEmptyAreOne(t *testing.T) {
	for _, m := range [][][]api.Row{{nil, nil}, {{}, {}}, {make([]api.Row, 0, 5), nil}, make([][]api.Row, 2, 5)} {
		l, w := formats(t, m)
		saves(t, w, m)
		leadsTo(t, m, of(1, put(1, "a", "v")))
		tells(t, play(t, empty(t), l...), [][]api.Row{nil, nil}, nil, w)
		for _, writes := range [][]api.Write{nil, {}, make([]api.Write, 0, 5)} {
			r := api.Record{Commit: 3, Writes: writes}
			k, v := adds(t, w, r)
			x := play(t, play(t, empty(t), l...), append(k, api.Do{Sync: true})...)
			tells(t, x, [][]api.Row{nil, nil}, []api.Record{of(3)}, v)
			x.Waits = []api.Put{}
			tells(t, x, [][]api.Row{nil, nil}, []api.Record{of(3)}, v)
		}
	}
}
