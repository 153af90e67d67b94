package wal_test

import (
	"math"
	"slices"
	"strings"
	"testing"

	"quorum/api"
	"quorum/tape"
	"quorum/wal"
)

// opens holds Open to the words of the chapter.
func opens(t *testing.T, x api.Tape, tables int) {
	t.Helper()
	wantMap, wantRecords, v, f := opened(x, tables)
	m, l, w, e := wal.Open(x, tables)
	if !sameMap(m, wantMap) || !sameRecords(l, wantRecords) || w != v || e != f {
		t.Fatalf("of %d tables: %v, %v, not %v, %v, told, not:%s", tables, w, e, v, f, short(m, l, wantMap, wantRecords))
	}
	if e != api.OK && (len(m) != 0 || len(l) != 0 || w != (api.Wal{})) {
		t.Fatalf("beside %v: %v, %v, %v", e, m, l, w)
	}
}

// tells holds what Open tells to what it should be.
func tells(t *testing.T, x api.Tape, m [][]api.Row, l []api.Record, w api.Wal) {
	t.Helper()
	opens(t, x, len(m))
	told, records, v, e := wal.Open(x, len(m))
	if !sameMap(told, m) || !sameRecords(records, l) || v != w || e != api.OK {
		t.Fatalf("%v, %v, not %v, told, not:%s", v, e, w, short(told, records, m, l))
	}
}

func bad(t *testing.T, x api.Tape, tables int) {
	t.Helper()
	opens(t, x, tables)
	if m, l, w, e := wal.Open(x, tables); len(m) != 0 || len(l) != 0 || w != (api.Wal{}) || e != api.ErrBad {
		t.Fatalf("of %d tables: %v, %v, %v, %v, with sector 0 %q", tables, m, l, w, e, x.Sectors[0])
	}
}

// with has other texts from sector at on.
func with(x api.Tape, at int, l ...string) api.Tape {
	y := api.Tape{Sectors: slices.Clone(x.Sectors)}
	copy(y.Sectors[at:], l)
	return y
}

// made is a tape of map m, saved so many times, on which records were added one by one.
func made(t *testing.T, times int, m [][]api.Row, l ...api.Record) (api.Tape, api.Wal) {
	t.Helper()
	steps, w := formats(t, m)
	x := play(t, empty(t), steps...)
	for range times - 1 {
		steps, w = saves(t, w, m)
		x = play(t, x, steps...)
	}
	for _, r := range l {
		steps, w = adds(t, w, r)
		x = play(t, x, append(steps, api.Do{Sync: true})...)
	}
	return x, w
}

// P19.3: Open.

func TestOpen(t *testing.T) {
	x := empty(t)
	x = with(x, 0, "\x00\x00\x00\x00\x00\x00\x01\x02\x00\x00\x01\x08\x00\x00\x00\x02\x00\x00\x00\x00"+strings.Repeat("\x00", 12))
	x = with(x, 128, "\x00\x00\x01\x02\x00\x00\x00\x00\x00\x00\x01\x14\x00\x00\x00\x01\x00\x00\x00\x01\x01\x00\x03key\x05value")
	x = with(x, 255, "\x00\x00\x01\x02\x00\x00\x00\x01\x00\x00\x01\x08\x00\x00\x00\x09\x00\x00\x00\x00"+strings.Repeat("\x00", 12))
	m, l, w, e := wal.Open(x, 3)
	if !sameMap(m, [][]api.Row{nil, {row("key", "value")}, nil}) || !sameRecords(l, []api.Record{of(9)}) || w != (api.Wal{Run: 258, Slot: 1, At: 256, Seq: 2}) || e != api.OK {
		t.Errorf("%v, %v, %v, %v", m, l, w, e)
	}
	opens(t, x, 3)
}

// One by one, each with a Sync of its own, and all ahead of one Sync.
func TestRecordsBehindOthers(t *testing.T) {
	for times := 1; times <= 3; times++ {
		first, w := made(t, times, two())
		x, v := first, w
		var ahead []api.Record
		var all []api.Do
		for _, r := range slices.Backward(goodRecords()) {
			l, next, e := wal.Add(v, r)
			if e == api.ErrFull {
				continue
			}
			x, v = play(t, x, append(l, api.Do{Sync: true})...), next
			ahead, all = append(ahead, r), append(all, l...)
			tells(t, x, two(), ahead, v)
			tells(t, play(t, first, append(slices.Clone(all), api.Do{Sync: true})...), two(), ahead, v)
		}
		if len(ahead) < 50 {
			t.Errorf("%d", len(ahead))
		}
		// a Save behind them: none of them is told any more
		l, u := saves(t, v, two())
		tells(t, play(t, x, l...), two(), nil, u)
	}
}

// A log that goes on up to the tape's end, by one sector, by some, by a long record.
func TestALogUpToTheEnd(t *testing.T) {
	for _, last := range []api.Record{of(8), heavy(8, 60), full(api.MaxRooms)} {
		room := api.MaxTape - api.LogAt - len(laidOut(last, 1, 1))
		l := slices.Repeat([]api.Record{of(7)}, room)
		x, w := made(t, 1, two(), append(l, last)...)
		if w.At != api.MaxTape || w.Seq != room+2 {
			t.Errorf("%v", w)
		}
		tells(t, x, two(), append(l, last), w)
		if _, _, e := wal.Add(w, of(1)); e != api.ErrFull {
			t.Errorf("%v", e)
		}
		s, v := saves(t, w, two())
		tells(t, play(t, x, s...), two(), nil, v)
	}
}

// The log's begin, where records of an older run lie behind it, whatever theirs
// were cut to.
func TestOlderRunsBehind(t *testing.T) {
	old := []api.Record{heavy(2, 50), of(3), heavy(4, 30), of(5), of(6), heavy(7, 90)}
	x, w := made(t, 1, two(), old...)
	l, w := saves(t, w, two())
	x = play(t, x, l...)
	var ahead []api.Record
	for _, r := range []api.Record{of(8), heavy(9, 25), heavy(10, 61), of(11)} {
		l, next := adds(t, w, r)
		x, w = play(t, x, append(l, api.Do{Sync: true})...), next
		ahead = append(ahead, r)
		tells(t, x, two(), ahead, w)
	}
}

// Records are told up to a gap in their numbers, one of another run, one that
// has lost a sector.
func TestRecordsAheadOfAGap(t *testing.T) {
	all := []api.Record{heavy(2, 50), of(3), heavy(4, 30), of(5)}
	x, w := made(t, 2, two(), all...)
	ends := []int{api.LogAt, api.LogAt + 3, api.LogAt + 4, api.LogAt + 6, api.LogAt + 7}
	for n, r := range all {
		at := func(l ...string) {
			t.Helper()
			tells(t, with(x, ends[n], l...), two(), all[:n], api.Wal{Run: 2, Slot: 1, At: ends[n], Seq: n + 1})
		}
		for _, run := range []int{0, 1, 3, api.MaxNum - 1, api.MaxNum} {
			at(laidOut(r, run, n+1)...)
		}
		for _, number := range []int{0, n, n + 2, n + 3, api.MaxNum} {
			at(laidOut(r, w.Run, number)...)
		}
		at(laidOut(r, w.Slot, n+1)...)
		for i := range laidOut(r, w.Run, n+1) {
			cut := laidOut(r, w.Run, n+1)
			for _, s := range []string{strings.Repeat("\x00", api.Sector), strings.Repeat("\xff", api.Sector), x.Sectors[0], x.Sectors[api.SlotB]} {
				cut[i] = s
				at(cut...)
			}
		}
	}
}

// What lies in the other slot, behind the image, and between it and the log, is not looked at.
func TestWhatIsNotLookedAt(t *testing.T) {
	for times := 1; times <= 2; times++ {
		for _, m := range [][][]api.Row{{nil, nil}, two(), {rows(32), rows(32)}} {
			x, w := made(t, times, m, of(2, put(0, "a", "w")), of(3))
			image := laidOut(imageOf(m), w.Run, 0)
			from, to := []int{api.SlotA, api.SlotB}[w.Slot], []int{api.SlotB, api.LogAt}[w.Slot]
			for at := 1; at < api.LogAt; at++ {
				if at >= from && at < from+len(image) {
					continue
				}
				for _, s := range []string{strings.Repeat("\xff", api.Sector), x.Sectors[0], image[0], sector(w.Run, 1, 0, 1, four(1)+four(0)), sector(w.Run, 0, len(image), 1, "more")} {
					tells(t, with(x, at, s), m, []api.Record{of(2, put(0, "a", "w")), of(3)}, w)
				}
			}
			behind := slices.Concat(laidOut(of(1), w.Run, 1), laidOut(of(2), w.Run, 2))
			if from+len(image)+2 <= to {
				tells(t, with(x, from+len(image), behind...), m, []api.Record{of(2, put(0, "a", "w")), of(3)}, w)
			}
		}
	}
}

// Writes of the log's records may be of tables that are not asked for: Map tells.
func TestRecordsOfOtherTables(t *testing.T) {
	x, w := made(t, 1, two(), of(2, put(2, "z", "v")))
	tells(t, x, two(), []api.Record{of(2, put(2, "z", "v"))}, w)
	m, l, _, _ := wal.Open(x, 2)
	if y, e := wal.Map(m, l...); len(y) != 0 || e != api.ErrForm {
		t.Errorf("%v, %v", y, e)
	}
	tells(t, x, append(two(), nil), []api.Record{of(2, put(2, "z", "v"))}, w)
}

func TestBadSectorZero(t *testing.T) {
	for times := 1; times <= 3; times++ {
		x, w := made(t, times, two(), of(2))
		commit := func(n int) string { return four(n) + four(0) }
		for _, s := range []string{
			strings.Repeat("\x00", api.Sector), strings.Repeat("\xff", api.Sector), strings.Repeat("\x01", api.Sector), x.Sectors[api.SlotA], x.Sectors[api.LogAt],
			sector(1, w.Run, 0, 1, commit(w.Slot+1)), sector(w.Run, w.Run, 0, 1, commit(w.Slot+1)), sector(api.MaxNum, w.Run, 0, 1, commit(w.Slot+1)),
			sector(0, 0, 0, 1, commit(w.Slot+1)), sector(0, api.MaxNum, 0, 1, commit(w.Slot+1)), sector(0, api.MaxNum+1, 0, 1, commit(w.Slot+1)), sector(0, math.MaxUint32, 0, 1, commit(w.Slot+1)), sector(0, math.MaxUint32, 0, 1, commit(1)),
			sector(0, w.Run+1, 0, 1, commit(w.Slot+1)), sector(0, w.Run, 0, 1, commit(2-w.Slot)), sector(0, w.Run+1, 0, 1, commit(2-w.Slot)),
			sector(0, w.Run, 0, 1, commit(0)), sector(0, w.Run, 0, 1, commit(3)), sector(0, w.Run, 0, 1, commit(4)), sector(0, w.Run, 0, 1, commit(w.Slot+1+256)), sector(0, w.Run, 0, 1, commit(api.MaxNum)), sector(0, w.Run, 0, 1, commit(math.MaxUint32)),
			sector(0, w.Run, 1, 1, commit(w.Slot+1)), sector(0, w.Run, 0, 0, commit(w.Slot+1)), sector(0, w.Run, 0, 2, commit(w.Slot+1)), sector(0, w.Run, 0, 1, commit(w.Slot + 1)[:7]), sector(0, w.Run, 0, 1, commit(w.Slot+1)+"\x00"),
			laidOut(of(w.Slot+1, put(0, "a", "")), 0, w.Run)[0], laidOut(of(w.Slot+1, gone(0, "a")), 0, w.Run)[0], laidOut(heavy(w.Slot+1, 40), 0, w.Run)[0],
		} {
			for tables := 2; tables <= api.MaxTables; tables++ {
				bad(t, with(x, 0, s), tables)
			}
		}
	}
}

// Of another run or slot than the image, also where the other slot has an image
// of another run.
func TestSectorZeroOfAnother(t *testing.T) {
	x, w := made(t, 4, two())
	for run := 1; run <= 6; run++ {
		for slot := range 2 {
			y := with(x, 0, sector(0, run, 0, 1, four(slot+1)+four(0)))
			switch {
			case run == w.Run && slot == w.Slot:
				tells(t, y, two(), nil, w)
			case run == w.Run-1 && slot != w.Slot:
				tells(t, y, two(), nil, api.Wal{Run: run, Slot: slot, At: api.LogAt, Seq: 1})
			default:
				bad(t, y, 2)
			}
		}
	}
}

// Of a run that no Wal has, also where image and log are of it.
func TestSectorZeroOfNoRun(t *testing.T) {
	good, _ := made(t, 1, two(), of(2))
	for _, run := range []int{0, api.MaxNum - 1, api.MaxNum} {
		for slot, at := range []int{api.SlotA, api.SlotB} {
			x := with(good, 0, sector(0, run, 0, 1, four(slot+1)+four(0)))
			x = with(with(x, at, laidOut(imageOf(two()), run, 0)...), api.LogAt, laidOut(of(2), run, 1)...)
			if run == api.MaxNum-1 {
				tells(t, x, two(), []api.Record{of(2)}, api.Wal{Run: run, Slot: slot, At: api.LogAt + 1, Seq: 2})
			} else {
				bad(t, x, 2)
			}
		}
	}
}

// turned is each text that has one byte of s changed.
func turned(s string, use func(string)) {
	for at := range len(s) {
		for c := range 256 {
			if b := []byte(s); b[at] != byte(c) {
				b[at] = byte(c)
				use(string(b))
			}
		}
	}
}

// Each byte counts, of sector 0; of an image and a record those turned make
// another one, or none.
func TestEachByteTurned(t *testing.T) {
	for times := 1; times <= 2; times++ {
		x, w := made(t, times, two(), heavy(2, 25), of(3))
		turned(x.Sectors[0], func(s string) { bad(t, with(x, 0, s), 2) })
		from := []int{api.SlotA, api.SlotB}[w.Slot]
		for _, at := range []int{from, from + 1, from + 2, api.LogAt, api.LogAt + 1, api.LogAt + 2} {
			turned(x.Sectors[at], func(s string) { opens(t, with(x, at, s), 2) })
		}
	}
}

func TestBadImages(t *testing.T) {
	m := [][]api.Row{{row("b", "1"), row("d", strings.Repeat("v", api.MaxValue))}, {row("a", "2"), row("c", strings.Repeat("w", api.MaxValue))}}
	for times := 1; times <= 2; times++ {
		x, w := made(t, times, m, of(2))
		at := []int{api.SlotA, api.SlotB}[w.Slot]
		good := laidOut(imageOf(m), w.Run, 0)
		if len(good) < 3 {
			t.Fatal(len(good))
		}
		for i := range good {
			for _, s := range []string{strings.Repeat("\x00", api.Sector), strings.Repeat("\xff", api.Sector), x.Sectors[0], x.Sectors[api.LogAt], good[(i+1)%len(good)]} {
				bad(t, with(x, at+i, s), 2)
			}
		}
		for _, run := range []int{0, w.Run - 1, w.Run + 1, api.MaxNum} {
			bad(t, with(x, at, laidOut(imageOf(m), run, 0)...), 2)
		}
		for _, number := range []int{1, 2, api.MaxNum} {
			bad(t, with(x, at, laidOut(imageOf(m), w.Run, number)...), 2)
		}
		for _, r := range badImages() {
			for tables := 2; tables <= api.MaxTables; tables++ {
				bad(t, with(x, at, laidOut(r, w.Run, 0)...), tables)
			}
		}
		other := []int{api.SlotB, api.SlotA}[w.Slot]
		bad(t, with(with(x, at, strings.Repeat("\x00", api.Sector)), other, good...), 2)
	}
}

// badImages are records that no map is told by.
func badImages() []api.Record {
	l := []api.Record{
		of(2), of(3), of(api.MaxNum), of(2, put(0, "a", "v")), of(0), of(1, put(3, "a", "v")), of(1, put(0, sized(13), "")), of(1, put(0, "a", sized(21))), of(1, put(0, "", "")),
		of(1, gone(0, "a")), of(1, put(0, "a", ""), gone(0, "b"), put(1, "c", "")), of(1, put(0, "a", ""), put(1, "b", ""), gone(1, "c")), of(1, gone(0, "a"), put(0, "a", "")),
		of(1, put(0, "b", ""), put(0, "a", "")), of(1, put(0, "a", ""), put(0, "a", "")), of(1, put(0, "a", ""), put(0, "b", "1"), put(0, "b", "2"), put(0, "c", "")), of(1, put(0, "aa", ""), put(0, "a", "")), of(1, put(1, "a", ""), put(1, "c", ""), put(1, "b", "")),
		of(1, put(1, "a", ""), put(0, "b", "")), of(1, put(0, "a", ""), put(1, "b", ""), put(0, "c", "")), of(1, put(1, "a", ""), put(0, "a", ""), put(1, "b", "")),
	}
	many := imageOf([][]api.Row{rows(api.MaxRooms)})
	for _, at := range []int{1, 30, api.MaxRooms - 1} {
		r := api.Record{Commit: 1, Writes: slices.Clone(many.Writes)}
		r.Writes[at].Key = r.Writes[at-1].Key
		l = append(l, r)
	}
	return append(l, imageOf([][]api.Row{rows(api.MaxRooms + 1)}))
}

// An image of fewer tables than are asked for: the others have no rows; with a
// row of one that isn't: ErrBad.
func TestTablesThatAreAskedFor(t *testing.T) {
	for least, m := range [][][]api.Row{nil, {{row("a", "v")}}, {nil, {row("a", "v")}}, {{row("a", "v")}, nil, {row("b", "w")}}} {
		x, w := made(t, 1, m)
		for tables := 1; tables <= api.MaxTables; tables++ {
			if tables < least {
				bad(t, x, tables)
				continue
			}
			tells(t, x, append(slices.Clone(m), make([][]api.Row, tables-len(m))...), nil, w)
		}
	}
}

func notForm(t *testing.T, x api.Tape, tables int) {
	t.Helper()
	opens(t, x, tables)
	if m, l, w, e := wal.Open(x, tables); len(m) != 0 || len(l) != 0 || w != (api.Wal{}) || e != api.ErrForm {
		t.Fatalf("of %d tables: %v, %v, %v, %v", tables, m, l, w, e)
	}
}

// ErrForm stands ahead of ErrBad.
func TestOpenOfWhatMayNotBe(t *testing.T) {
	good, _ := made(t, 2, two(), of(2))
	worse := with(good, 0, strings.Repeat("\x00", api.Sector))
	for _, x := range []api.Tape{good, worse, empty(t)} {
		for _, tables := range []int{0, -1, api.MaxTables + 1, math.MinInt, math.MaxInt} {
			notForm(t, x, tables)
		}
		for _, tables := range []int{-1, 0, 1, 2, 3, 4} {
			notForm(t, api.Tape{}, tables)
			for _, n := range []int{0, 1, 9, api.LogAt, api.MaxTape - 1} {
				notForm(t, api.Tape{Sectors: x.Sectors[:n]}, tables)
			}
			notForm(t, api.Tape{Sectors: append(slices.Clone(x.Sectors), x.Sectors[1])}, tables)
			for _, at := range []int{0, 1, api.SlotB, 300, api.MaxTape - 1} {
				for _, s := range []string{"", x.Sectors[at][1:], x.Sectors[at] + "\x00", sized(5000)} {
					notForm(t, with(x, at, s), tables)
				}
				notForm(t, api.Tape{Sectors: x.Sectors, Waits: []api.Put{{At: at, Text: x.Sectors[at]}}}, tables)
				notForm(t, api.Tape{Sectors: x.Sectors, Waits: []api.Put{{At: at, Text: "x"}}}, tables)
				notForm(t, api.Tape{Sectors: x.Sectors, Waits: []api.Put{{At: api.MaxTape + at, Text: x.Sectors[at]}}}, tables)
			}
			many := slices.Repeat([]api.Put{{At: 1, Text: x.Sectors[1]}}, 4*api.MaxTape+1)
			notForm(t, api.Tape{Sectors: x.Sectors, Waits: many}, tables)
			notForm(t, api.Tape{Sectors: x.Sectors, Waits: many[1:]}, tables)
		}
	}
}

func TestOpenOfAnEmptyTape(t *testing.T) {
	for tables := 1; tables <= api.MaxTables; tables++ {
		bad(t, empty(t), tables)
	}
}

// Tapes on which sectors were swapped, lost and turned, held to the words.
func TestOpenOfMangledTapes(t *testing.T) {
	seed := uint32(7)
	draw := func(n int) int {
		seed ^= seed << 13
		seed ^= seed >> 17
		seed ^= seed << 5
		return int(seed % uint32(n))
	}
	x, _ := made(t, 3, two(), heavy(2, 50), of(3), heavy(4, 30))
	places := []int{0, 1, 2, 3, 4, 128, 129, 130, 131, 255, 256, 257, 258, 259, 260, 261, 262}
	told := map[api.Errno]int{}
	for range 20000 {
		y := with(x, 0)
		for range draw(3) {
			at := places[draw(len(places))]
			switch draw(3) {
			case 0:
				y.Sectors[at] = y.Sectors[places[draw(len(places))]]
			case 1:
				y.Sectors[at] = strings.Repeat("\x00", api.Sector)
			case 2:
				b := []byte(y.Sectors[at])
				b[draw(len(b))] = byte(draw(4))
				y.Sectors[at] = string(b)
			}
		}
		opens(t, y, 1+draw(api.MaxTables))
		_, _, _, e := wal.Open(y, 2)
		told[e]++
	}
	if told[api.OK] < 1000 || told[api.ErrBad] < 1000 {
		t.Errorf("%v", told)
	}
}

// P19.3: Map.

func leadsTo(t *testing.T, m [][]api.Row, l ...api.Record) [][]api.Row {
	t.Helper()
	want, f := mapped(m, l...)
	x, e := wal.Map(m, l...)
	if !sameMap(x, want) || e != f || e != api.OK && len(x) != 0 {
		t.Fatalf("%v, not %v, of map, records, told, not:%s", e, f, short(m, l, x, want))
	}
	return x
}

func TestMap(t *testing.T) {
	m := [][]api.Row{{row("b", "1"), row("d", "2")}, {row("b", "3")}}
	for i, c := range []struct {
		l    []api.Record
		want [][]api.Row
	}{
		{nil, m}, {[]api.Record{of(2)}, m}, {[]api.Record{of(2), of(2), of(1)}, m},
		{[]api.Record{of(2, put(0, "a", "x"))}, [][]api.Row{{row("a", "x"), row("b", "1"), row("d", "2")}, {row("b", "3")}}},
		{[]api.Record{of(2, put(0, "c", "x"), put(0, "e", "y"))}, [][]api.Row{{row("b", "1"), row("c", "x"), row("d", "2"), row("e", "y")}, {row("b", "3")}}},
		{[]api.Record{of(2, put(0, "b", ""))}, [][]api.Row{{row("b", ""), row("d", "2")}, {row("b", "3")}}},
		{[]api.Record{of(2, gone(0, "b"))}, [][]api.Row{{row("d", "2")}, {row("b", "3")}}},
		{[]api.Record{of(2, gone(0, "a"), gone(0, "c"), gone(1, "z"))}, m},
		{[]api.Record{of(2, gone(0, "d"), gone(1, "b"), gone(0, "b"))}, [][]api.Row{nil, nil}},
		{[]api.Record{of(2, put(1, "b", "x"), put(1, "b", "y"))}, [][]api.Row{m[0], {row("b", "y")}}},
		{[]api.Record{of(2, put(1, "b", "x")), of(3, put(1, "b", "y"))}, [][]api.Row{m[0], {row("b", "y")}}},
		{[]api.Record{of(3, put(1, "b", "y")), of(2, put(1, "b", "x"))}, [][]api.Row{m[0], {row("b", "x")}}},
		{[]api.Record{of(2, put(1, "c", "x"), gone(1, "c"))}, m},
		{[]api.Record{of(2, gone(1, "c"), put(1, "c", "x"))}, [][]api.Row{m[0], {row("b", "3"), row("c", "x")}}},
		{[]api.Record{of(2, put(1, "c", "x")), of(3, gone(1, "c")), of(4, put(1, "c", "y")), of(5, gone(1, "b"))}, [][]api.Row{m[0], {row("c", "y")}}},
	} {
		if x := leadsTo(t, m, c.l...); !sameMap(x, c.want) {
			t.Errorf("%d: %v, not %v", i, x, c.want)
		}
	}
}

func TestMapOfAllMaps(t *testing.T) {
	records := goodRecords()
	for i, m := range slices.Concat(goodMaps(), fullMaps(), badMaps()) {
		leadsTo(t, m)
		leadsTo(t, m, of(1))
		leadsTo(t, m, records[i%len(records)])
		leadsTo(t, m, records[i%len(records)], records[(i+1)%len(records)])
	}
	for _, r := range slices.Concat(records, badRecords()) {
		for _, m := range [][][]api.Row{nil, {nil}, two(), {nil, nil, nil}, {rows(9), mixed(70), rows(3)}, badMaps()[0]} {
			leadsTo(t, m, r)
			leadsTo(t, m, of(1), r, of(1, put(0, "a", "v")))
		}
	}
	leadsTo(t, append(two(), nil), records...)
}

// Each record by itself, behind the one ahead: as all at once. Small keys and
// few, so that writes meet rows and one another.
func TestMapOneByOne(t *testing.T) {
	things := []api.Write{put(0, "a", "1"), put(0, "a", "2"), gone(0, "a"), put(0, "b", "3"), put(1, "a", "4"), gone(1, "a")}
	l := [][]api.Write{nil}
	for from := 0; len(l) < 200; {
		to := len(l)
		for _, ahead := range l[from:to] {
			for _, w := range things {
				l = append(l, append(slices.Clone(ahead), w))
			}
		}
		from = to
	}
	for _, m := range [][][]api.Row{{nil, nil}, {{row("a", "9")}, nil}, {{row("b", "9"), row("c", "8")}, {row("a", "7")}}} {
		for _, writes := range l {
			whole := leadsTo(t, m, of(2, writes...))
			step, parts := m, m
			var records []api.Record
			for i, w := range writes {
				step = leadsTo(t, step, of(2+i, w))
				records = append(records, of(2+i, w))
			}
			for cut := range len(records) + 1 {
				parts = leadsTo(t, leadsTo(t, m, records[:cut]...), records[cut:]...)
				if !sameMap(parts, whole) {
					t.Fatalf("%d: %v, %v, not %v", cut, records, parts, whole)
				}
			}
			if !sameMap(step, whole) || !sameMap(leadsTo(t, m, records...), whole) {
				t.Fatalf("%v: %v, not %v", records, step, whole)
			}
		}
	}
}

// More rows than an image has may come of it, from rows and records.
func TestMapOfMany(t *testing.T) {
	m, keys := [][]api.Row{rows(3000), nil, mixed(200)}, rows(4000)
	var l []api.Record
	for i := range 300 {
		var r api.Record
		r.Commit = 300 - i
		for k := range api.MaxRooms {
			w := put(k%3, keys[(i*13+k)%4000].Key[k/3%4*3:], "new")
			if i%7 == 0 {
				w = gone(k%3, w.Key)
			}
			r.Writes = append(r.Writes, w)
		}
		l = append(l, r)
	}
	leadsTo(t, m, l...)
	leadsTo(t, m, append(l, of(0))...)
}

// ErrForm of the map, of a record first, amid, last, of a table that isn't there.
func TestMapErrors(t *testing.T) {
	wants := func(m [][]api.Row, l ...api.Record) {
		t.Helper()
		if x, e := wal.Map(m, l...); len(x) != 0 || e != api.ErrForm {
			t.Fatalf("%v, of map, records, told:%s", e, short(m, l, x))
		}
		leadsTo(t, m, l...)
	}
	for _, m := range badMaps() {
		wants(m)
		wants(m, of(1))
		wants(m, of(0))
		wants(m, of(1, put(2, "a", "v")))
	}
	good := of(2, put(0, "a", "v"))
	for _, r := range badRecords() {
		wants(two(), r)
		wants(two(), r, good, good)
		wants(two(), good, r, good)
		wants(two(), good, good, r)
	}
	for tables := range api.MaxTables {
		for n := tables; n < api.MaxTables; n++ {
			m := make([][]api.Row, tables)
			for _, w := range []api.Write{put(n, "a", "v"), gone(n, "a")} {
				wants(m, of(1, w))
				wants(m, of(1), of(1, w), of(1))
				if tables > 0 {
					wants(m, of(1, put(0, "a", "v"), w, put(0, "b", "v")), good)
				}
			}
		}
	}
}

// Example 1.
func TestExample(t *testing.T) {
	l, w, e := wal.Format(two())
	x, f := tape.New(api.MaxTape)
	y, g := tape.Play(x, -1, l...)
	m, records, v, h := wal.Open(y, 2)
	if errs := [4]api.Errno{e, f, g, h}; errs != [4]api.Errno{} || !sameMap(m, two()) || len(records) != 0 || v != w {
		t.Errorf("%v, %v, %v, %v, %v", errs, m, records, v, w)
	}
}
