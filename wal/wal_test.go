package wal_test

import (
	"fmt"
	"math"
	"slices"
	"strings"
	"testing"

	"quorum/api"
	"quorum/tape"
	"quorum/wal"
)

func sized(n int) string { return strings.Repeat("x", n) }

func row(k, v string) api.Row { return api.Row{Key: k, Value: v} }

func put(t int, k, v string) api.Write { return api.Write{Table: t, Key: k, Value: v} }

func gone(t int, k string) api.Write { return api.Write{Table: t, Key: k, Gone: true} }

func of(commit int, l ...api.Write) api.Record { return api.Record{Commit: commit, Writes: l} }

// rows are n, of the longest keys and values, rising.
func rows(n int) []api.Row {
	var l []api.Row
	for i := range n {
		l = append(l, row(fmt.Sprintf("%0*d", api.MaxKey, i), strings.Repeat("v", api.MaxValue)))
	}
	return l
}

// mixed is rows of keys and values of all lengths.
func mixed(n int) []api.Row {
	var l []api.Row
	for i := range n {
		l = append(l, row(one(i)+strings.Repeat("k", i%api.MaxKey), strings.Repeat(one(255-i), i%(api.MaxValue+1))))
	}
	return l
}

// two is a map of two tables.
func two() [][]api.Row {
	return [][]api.Row{{row("a", "1"), row("b", "2")}, {row("x", strings.Repeat("9", api.MaxValue))}}
}

// goodMaps are such as may be, and fit.
func goodMaps() [][][]api.Row {
	l := [][][]api.Row{
		nil, {}, {nil}, {{}}, {nil, nil}, {{}, nil, {}}, two(), {{row("a", "")}}, {nil, {row("a", "v")}}, {nil, nil, {row("a", "v")}}, {{row("a", "v")}, nil, {row("a", "v")}},
		{{row("\x00", "\x00\xff\x00"), row("\x00\x00", ""), row("\xff", "\xff")}, {row("日本", "é")}}, {{row("a", "1"), row("aa", "2"), row("b", "3")}, {row("a", "1"), row("ab", "2")}, {row("A", "1"), row("B", "2")}},
		{rows(api.MaxRooms)}, {nil, rows(api.MaxRooms)}, {nil, nil, rows(api.MaxRooms)}, {rows(20), rows(20), rows(24)}, {rows(63), nil, rows(1)}, {rows(api.MaxRooms - 1)}, {mixed(api.MaxRooms)}, {mixed(9), mixed(30), mixed(25)},
	}
	// images of each number of bytes up to three sectors, so that parts end at all places
	for k := range api.MaxKey {
		for v := range api.MaxValue + 1 {
			l = append(l, [][]api.Row{{row(sized(k+1), sized(v))}})
		}
	}
	return l
}

// fullMaps are such as may be, but do not fit.
func fullMaps() [][][]api.Row {
	return [][][]api.Row{{rows(api.MaxRooms + 1)}, {nil, nil, rows(api.MaxRooms + 1)}, {rows(api.MaxRooms), rows(1)}, {rows(22), rows(22), rows(21)}, {mixed(128)}, {rows(3000), rows(3000)}}
}

func badRows() [][]api.Row {
	return [][]api.Row{
		{row("b", ""), row("a", "")}, {row("a", ""), row("a", "")}, {row("a", "1"), row("b", "2"), row("b", "3"), row("c", "4")}, {row("a", "1"), row("c", "2"), row("b", "3")}, {row("aa", ""), row("a", "")},
		{row("", "v")}, {row("a", "v"), row("", "v")}, {row(sized(api.MaxKey+1), "v")}, {row("a", "v"), row(sized(api.MaxKey+1), "v")}, {row("a", sized(api.MaxValue+1))}, {row(sized(256), sized(256))},
	}
}

// badMaps are such as may not be: of how many tables, of rows in the first one, amid, last.
func badMaps() [][][]api.Row {
	l := [][][]api.Row{make([][]api.Row, api.MaxTables+1), make([][]api.Row, 99), append(two(), two()...)}
	for _, bad := range badRows() {
		l = append(l, [][]api.Row{bad}, [][]api.Row{bad, nil, nil}, [][]api.Row{nil, bad, {row("a", "v")}}, [][]api.Row{rows(2), {row("a", "v")}, bad})
		l = append(l, [][]api.Row{rows(api.MaxRooms + 1), bad}, [][]api.Row{append(rows(api.MaxRooms), row("0", "")), bad})
	}
	return append(l, append(fullMaps()[0], nil, nil, nil))
}

// goodWals are such as may be, and aren't at a limit.
func goodWals() []api.Wal {
	var l []api.Wal
	for _, run := range []int{1, 2, 3, 255, 256, 0x01020304, api.MaxNum - 3, api.MaxNum - 2} {
		for slot := range 2 {
			for _, at := range []int{api.LogAt, api.LogAt + 1, 300, api.MaxTape - 1, api.MaxTape} {
				for _, seq := range []int{1, 2, 300, 0x01020304, api.MaxNum - 3, api.MaxNum - 2} {
					l = append(l, api.Wal{Run: run, Slot: slot, At: at, Seq: seq})
				}
			}
		}
	}
	return l
}

func badWals() []api.Wal {
	good := api.Wal{Run: 5, Slot: 1, At: 300, Seq: 7}
	l := []api.Wal{{}, {Run: -1, Slot: -1, At: -1, Seq: -1}}
	for _, run := range []int{0, -1, api.MaxNum, api.MaxNum + 1, 1 << 32, 1<<32 + 1, math.MinInt, math.MaxInt} {
		w := good
		w.Run = run
		l = append(l, w)
		w = good
		w.Seq = run
		l = append(l, w, api.Wal{Run: run, At: api.LogAt, Seq: run})
	}
	for _, slot := range []int{-1, 2, 3, math.MinInt, math.MaxInt} {
		w := good
		w.Slot = slot
		l = append(l, w)
	}
	for _, at := range []int{api.LogAt - 1, api.MaxTape + 1, 0, -1, api.SlotA, api.SlotB, math.MinInt, math.MaxInt} {
		w := good
		w.At = at
		l = append(l, w)
	}
	return l
}

// heavy has just so many bytes (8, or 13 and more).
func heavy(commit, bytes int) api.Record {
	r := of(commit)
	for left := bytes - 8; left > 0; {
		size := min(left, 36)
		if rest := left - size; rest > 0 && rest < 5 {
			size -= 5
		}
		k := min(size-4, api.MaxKey)
		r.Writes = append(r.Writes, put(1, strings.Repeat("k", k), strings.Repeat("v", size-4-k)))
		left -= size
	}
	return r
}

// full has n writes of the longest keys and values.
func full(n int) api.Record {
	return of(api.MaxNum, slices.Repeat([]api.Write{put(api.MaxTables-1, sized(api.MaxKey), sized(api.MaxValue))}, n)...)
}

// goodRecords are such as may be.
func goodRecords() []api.Record {
	l := []api.Record{
		of(1), of(2), of(api.MaxNum), of(0x01020304), of(3, put(0, "a", "")), of(3, gone(2, "a")), of(4, put(0, "a", "1"), put(0, "a", "2"), gone(0, "a"), put(0, "a", "3")), of(5, put(2, "z", "v"), gone(1, "m"), put(0, "a", "w")),
		of(1, put(0, "\x00", "\x00\xff\x00"), put(1, "\xff", ""), gone(0, "\x00\xff")), full(1), full(api.MaxRooms - 1), full(api.MaxRooms),
	}
	for bytes := 13; bytes <= 62; bytes++ {
		l = append(l, heavy(bytes, bytes))
	}
	return l
}

// badRecords are such as may not be, whatever tables there are.
func badRecords() []api.Record {
	l := []api.Record{full(api.MaxRooms + 1), full(2 * api.MaxRooms), full(256), {Commit: 1, Writes: make([]api.Write, 1)}}
	for _, n := range []int{0, -1, api.MaxNum + 1, 1 << 32, 1<<32 + 1, math.MinInt, math.MaxInt} {
		l = append(l, of(n), of(n, put(0, "a", "v")))
	}
	for _, w := range []api.Write{
		put(-1, "a", "v"), put(api.MaxTables, "a", "v"), put(256, "a", ""), put(math.MinInt, "a", ""), put(math.MaxInt, "a", ""), gone(api.MaxTables, "a"), put(0, "", "v"), gone(0, ""), put(0, sized(api.MaxKey+1), "v"), put(0, sized(256), ""), put(0, "a", sized(api.MaxValue+1)), put(0, "a", sized(256)), {Key: "a", Value: "v", Gone: true},
	} {
		l = append(l, of(1, w), of(1, w, put(0, "a", "v")), of(1, put(0, "a", "v"), w, gone(0, "b")), of(1, put(0, "a", "v"), gone(0, "b"), w))
	}
	return l
}

// empty is a tape on which nothing was put.
func empty(t *testing.T) api.Tape {
	t.Helper()
	x, e := tape.New(api.MaxTape)
	if e != api.OK {
		t.Fatal(e)
	}
	return x
}

func play(t *testing.T, x api.Tape, l ...api.Do) api.Tape {
	t.Helper()
	y, e := tape.Play(x, -1, l...)
	if e != api.OK {
		t.Fatalf("%v:%s", e, short(l))
	}
	return y
}

// formats, saves and adds hold a call to the words of the chapter.

func formats(t *testing.T, m [][]api.Row) ([]api.Do, api.Wal) {
	t.Helper()
	want, v, f := formatted(m)
	l, w, e := wal.Format(m)
	if !slices.Equal(l, want) || w != v || e != f {
		t.Fatalf("%v, %v, not %v, %v, of map, told, not:%s", w, e, v, f, short(m, l, want))
	}
	return l, w
}

func saves(t *testing.T, from api.Wal, m [][]api.Row) ([]api.Do, api.Wal) {
	t.Helper()
	want, v, f := saved(from, m)
	l, w, e := wal.Save(from, m)
	if !slices.Equal(l, want) || w != v || e != f {
		t.Fatalf("%v: %v, %v, not %v, %v, of map, told, not:%s", from, w, e, v, f, short(m, l, want))
	}
	return l, w
}

func adds(t *testing.T, from api.Wal, r api.Record) ([]api.Do, api.Wal) {
	t.Helper()
	want, v, f := added(from, r)
	l, w, e := wal.Add(from, r)
	if !slices.Equal(l, want) || w != v || e != f {
		t.Fatalf("%v: %v, %v, not %v, %v, of record, told, not:%s", from, w, e, v, f, short(r, l, want))
	}
	return l, w
}

// P19.1: Format.

func TestFormat(t *testing.T) {
	l, w, e := wal.Format([][]api.Row{{row("key", "value")}, nil, {row("k", "")}})
	zeros := func(n int) string { return strings.Repeat("\x00", n) }
	want := []api.Do{
		{Put: api.Put{At: 1, Text: "\x00\x00\x00\x01\x00\x00\x00\x00\x00\x00\x00\x14\x00\x00\x00\x01\x00\x00\x00\x02\x00\x00\x03key\x05value"}},
		{Put: api.Put{At: 2, Text: "\x00\x00\x00\x01\x00\x00\x00\x00\x00\x01\x01\x05\x02\x00\x01k\x00" + zeros(15)}},
		{Sync: true},
		{Put: api.Put{At: 0, Text: "\x00\x00\x00\x00\x00\x00\x00\x01\x00\x00\x01\x08\x00\x00\x00\x01\x00\x00\x00\x00" + zeros(12)}},
		{Sync: true},
	}
	if !slices.Equal(l, want) || w != (api.Wal{Run: 1, Slot: 0, At: 255, Seq: 1}) || e != api.OK {
		t.Errorf("%v, %v, told, not:%s", w, e, short(l, want))
	}
}

// An empty map's image has one sector.
func TestFormatOfNothing(t *testing.T) {
	for _, m := range [][][]api.Row{nil, {}, {nil}, {{}, {}}, {nil, nil, nil}} {
		l, _ := formats(t, m)
		if len(l) != 4 || !l[1].Sync || l[0].Put.Text != sector(1, 0, 0, 1, four(1)+four(0)) {
			t.Errorf("%v:%s", m, short(l))
		}
	}
}

func TestFormatThenOpen(t *testing.T) {
	for _, m := range goodMaps() {
		l, w := formats(t, m)
		x := play(t, empty(t), l...)
		for tables := max(1, len(m)); tables <= api.MaxTables; tables++ {
			want := append(slices.Clone(m), make([][]api.Row, tables-len(m))...)
			told, records, v, e := wal.Open(x, tables)
			if !sameMap(told, want) || len(records) != 0 || v != w || e != api.OK {
				t.Fatalf("%d: %v, %v, of map, told:%s", tables, v, e, short(m, told, records))
			}
		}
	}
}

// The longest image fits both slots, and leaves the other one and the log as they are.
func TestTheLongestImage(t *testing.T) {
	l, w := formats(t, [][]api.Row{rows(api.MaxRooms)})
	k, _ := saves(t, w, [][]api.Row{nil, rows(api.MaxRooms)})
	for i, steps := range [][]api.Do{l, k} {
		first := []int{api.SlotA, api.SlotB}[i]
		last := []int{api.SlotB, api.LogAt}[i]
		for at, d := range steps[:len(steps)-3] {
			if d.Sync || d.Put.At != first+at || d.Put.At >= last {
				t.Errorf("%d: %v", at, d)
			}
		}
		if len(steps) != 116+3 {
			t.Errorf("%d", len(steps))
		}
	}
}

func TestFormatErrors(t *testing.T) {
	for i, m := range badMaps() {
		if l, w, e := wal.Format(m); len(l) != 0 || w != (api.Wal{}) || e != api.ErrForm {
			t.Fatalf("%d: %v, %v, %v", i, l, w, e)
		}
		formats(t, m)
	}
	for i, m := range fullMaps() {
		if l, w, e := wal.Format(m); len(l) != 0 || w != (api.Wal{}) || e != api.ErrFull {
			t.Fatalf("%d: %v, %v, %v", i, l, w, e)
		}
		formats(t, m)
	}
}

// P19.1: Save.

func TestSave(t *testing.T) {
	zeros := strings.Repeat("\x00", 12)
	for slot, want := range [][]api.Do{
		{{Put: api.Put{At: 128, Text: "\x00\x00\x01\x00\x00\x00\x00\x00\x00\x00\x01\x0e\x00\x00\x00\x01\x00\x00\x00\x01\x01\x00\x01k\x01v" + zeros[:6]}}, {Sync: true}, {Put: api.Put{At: 0, Text: "\x00\x00\x00\x00\x00\x00\x01\x00\x00\x00\x01\x08\x00\x00\x00\x02\x00\x00\x00\x00" + zeros}}, {Sync: true}},
		{{Put: api.Put{At: 1, Text: "\x00\x00\x01\x00\x00\x00\x00\x00\x00\x00\x01\x0e\x00\x00\x00\x01\x00\x00\x00\x01\x01\x00\x01k\x01v" + zeros[:6]}}, {Sync: true}, {Put: api.Put{At: 0, Text: "\x00\x00\x00\x00\x00\x00\x01\x00\x00\x00\x01\x08\x00\x00\x00\x01\x00\x00\x00\x00" + zeros}}, {Sync: true}},
	} {
		l, w, e := wal.Save(api.Wal{Run: 255, Slot: slot, At: 400, Seq: 9}, [][]api.Row{nil, {row("k", "v")}})
		if !slices.Equal(l, want) || w != (api.Wal{Run: 256, Slot: 1 - slot, At: 255, Seq: 1}) || e != api.OK {
			t.Errorf("%d: %v, %v, told, not:%s", slot, w, e, short(l, want))
		}
	}
}

func TestSaveOfAllWals(t *testing.T) {
	maps := goodMaps()
	for i, w := range goodWals() {
		saves(t, w, maps[i%len(maps)])
	}
	for i, m := range maps {
		saves(t, goodWals()[i%len(goodWals())], m)
	}
}

// Each map behind the one ahead, in the one slot, then in the other.
func TestSaveAgainAndAgain(t *testing.T) {
	l, w := formats(t, two())
	x := play(t, empty(t), l...)
	for i, m := range goodMaps() {
		l, w = saves(t, w, m)
		x = play(t, x, l...)
		opens(t, x, api.MaxTables)
		told, records, v, e := wal.Open(x, api.MaxTables)
		want := append(slices.Clone(m), make([][]api.Row, api.MaxTables-len(m))...)
		if !sameMap(told, want) || len(records) != 0 || v != w || w != (api.Wal{Run: 2 + i, Slot: 1 - i%2, At: api.LogAt, Seq: 1}) || e != api.OK {
			t.Fatalf("%d: %v, %v, of map, told:%s", i, v, e, short(m, told, records))
		}
	}
}

// Up to the last run that there is.
func TestTheLastRuns(t *testing.T) {
	x := empty(t)
	w := api.Wal{Run: api.MaxNum - 4, Slot: 1, At: api.MaxTape, Seq: api.MaxNum - 1}
	for run := api.MaxNum - 3; run < api.MaxNum; run++ {
		l, v := saves(t, w, two())
		steps, u := adds(t, v, heavy(9, 50))
		x = play(t, x, slices.Concat(l, steps, []api.Do{{Sync: true}})...)
		m, records, z, e := wal.Open(x, 2)
		if v.Run != run || !sameMap(m, two()) || !sameRecords(records, []api.Record{heavy(9, 50)}) || z != u || e != api.OK {
			t.Errorf("%d: %v, %v, %v, %v", run, m, records, z, e)
		}
		w = u
	}
	if l, v, e := wal.Save(w, two()); len(l) != 0 || v != (api.Wal{}) || e != api.ErrLimit {
		t.Errorf("%v, %v, %v", l, v, e)
	}
}

// ErrForm of either, ErrLimit, ErrFull, in this order.
func TestSaveErrors(t *testing.T) {
	good := api.Wal{Run: api.MaxNum - 2, Slot: 1, At: api.MaxTape, Seq: api.MaxNum - 1}
	last := api.Wal{Run: api.MaxNum - 1, Slot: 1, At: api.MaxTape, Seq: api.MaxNum - 1}
	wants := func(w api.Wal, l [][][]api.Row, want api.Errno) {
		t.Helper()
		for _, m := range l {
			if k, x, e := wal.Save(w, m); e != want || e != api.OK && (len(k) != 0 || x != (api.Wal{})) {
				t.Fatalf("%v: %v, %v, %v, not %v, of map:%s", w, k, x, e, want, short(m))
			}
			saves(t, w, m)
		}
	}
	wants(good, goodMaps(), api.OK)
	wants(good, fullMaps(), api.ErrFull)
	wants(good, badMaps(), api.ErrForm)
	wants(last, goodMaps(), api.ErrLimit)
	wants(last, fullMaps(), api.ErrLimit)
	wants(last, badMaps(), api.ErrForm)
	for _, w := range badWals() {
		wants(w, [][][]api.Row{nil, two(), fullMaps()[0], badMaps()[0]}, api.ErrForm)
	}
}

// P19.2

func TestAdd(t *testing.T) {
	for slot := range 2 {
		l, w, e := wal.Add(api.Wal{Run: 258, Slot: slot, At: 300, Seq: 3}, of(7, put(2, "key", "value"), gone(0, "k")))
		want := []api.Do{
			{Put: api.Put{At: 300, Text: "\x00\x00\x01\x02\x00\x00\x00\x03\x00\x00\x00\x14\x00\x00\x00\x07\x00\x00\x00\x02\x02\x00\x03key\x05value"}},
			{Put: api.Put{At: 301, Text: "\x00\x00\x01\x02\x00\x00\x00\x03\x00\x01\x01\x05\x00\x01\x01k\x00" + strings.Repeat("\x00", 15)}},
		}
		if !slices.Equal(l, want) || w != (api.Wal{Run: 258, Slot: slot, At: 302, Seq: 4}) || e != api.OK {
			t.Errorf("%d: %v, %v, told, not:%s", slot, w, e, short(l, want))
		}
	}
}

func TestAddOfAllWals(t *testing.T) {
	records := slices.Concat(goodRecords(), badRecords())
	for i, w := range slices.Concat(goodWals(), badWals()) {
		adds(t, w, of(1))
		adds(t, w, full(1))
		adds(t, w, records[i%len(records)])
	}
	for i, r := range records {
		adds(t, goodWals()[i%len(goodWals())], r)
		adds(t, api.Wal{Run: 1, At: api.LogAt, Seq: 1}, r)
	}
}

// Up to the tape's end, and one sector more.
func TestUpToTheEnd(t *testing.T) {
	for _, r := range goodRecords() {
		many := len(laidOut(r, 1, 1))
		for at := api.MaxTape - many - 2; at <= api.MaxTape; at++ {
			l, w, e := wal.Add(api.Wal{Run: 1, At: at, Seq: 1}, r)
			if at+many <= api.MaxTape && (len(l) != many || w.At != at+many || l[many-1].Put.At != w.At-1 || e != api.OK) {
				t.Fatalf("%d: %v, %v, of record, told:%s", at, w, e, short(r, l))
			}
			if at+many > api.MaxTape && (len(l) != 0 || w != (api.Wal{}) || e != api.ErrFull) {
				t.Fatalf("%d: %v, %v, of record, told:%s", at, w, e, short(r, l))
			}
		}
	}
}

// ErrForm of either, ErrLimit, ErrFull, in this order.
func TestAddErrors(t *testing.T) {
	wants := func(w api.Wal, l []api.Record, want api.Errno) {
		t.Helper()
		for _, r := range l {
			if k, x, e := wal.Add(w, r); e != want || e != api.OK && (len(k) != 0 || x != (api.Wal{})) {
				t.Fatalf("%v: %v, %v, %v, not %v, of record:%s", w, k, x, e, want, short(r))
			}
			adds(t, w, r)
		}
	}
	for _, run := range []int{1, api.MaxNum - 1} {
		wants(api.Wal{Run: run, At: api.LogAt, Seq: api.MaxNum - 2}, goodRecords(), api.OK)
		wants(api.Wal{Run: run, At: api.MaxTape, Seq: api.MaxNum - 2}, goodRecords(), api.ErrFull)
		wants(api.Wal{Run: run, At: api.MaxTape, Seq: api.MaxNum - 2}, badRecords(), api.ErrForm)
		wants(api.Wal{Run: run, At: api.LogAt, Seq: api.MaxNum - 1}, goodRecords(), api.ErrLimit)
		wants(api.Wal{Run: run, At: api.MaxTape, Seq: api.MaxNum - 1}, goodRecords(), api.ErrLimit)
		wants(api.Wal{Run: run, At: api.MaxTape, Seq: api.MaxNum - 1}, badRecords(), api.ErrForm)
	}
	for _, w := range badWals() {
		wants(w, []api.Record{of(1), full(1), full(api.MaxRooms), of(0), full(api.MaxRooms + 1)}, api.ErrForm)
	}
}

// The last number that a record may have is told, and read.
func TestTheLastNumbers(t *testing.T) {
	w := api.Wal{Run: 1, At: api.LogAt, Seq: api.MaxNum - 2}
	l, w := adds(t, w, of(5))
	if w != (api.Wal{Run: 1, At: api.LogAt + 1, Seq: api.MaxNum - 1}) || l[0].Put.Text != sector(1, api.MaxNum-2, 0, 1, four(5)+four(0)) {
		t.Errorf("%v, %v", l, w)
	}
}
