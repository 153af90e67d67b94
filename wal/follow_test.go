package wal_test

import (
	"math"
	"slices"
	"strings"
	"testing"

	"quorum/api"
	"quorum/tape"
	"quorum/wal"
)

// P19.4

// log is what a tape tells.
type log struct {
	m [][]api.Row
	l []api.Record
	w api.Wal
}

func read(t *testing.T, x api.Tape, tables int) log {
	t.Helper()
	m, l, w, e := wal.Open(x, tables)
	if e != api.OK {
		t.Fatalf("%v, with sector 0 %q", e, x.Sectors[0])
	}
	return log{m, l, w}
}

func same(a, b log) bool { return sameMap(a.m, b.m) && sameRecords(a.l, b.l) && a.w == b.w }

// crashed is the tape behind the first n steps, and a crash.
func crashed(t *testing.T, x api.Tape, steps []api.Do, n int, keep []int) api.Tape {
	t.Helper()
	y, e := tape.Play(x, n, steps...)
	z, f := tape.Crash(y, keep...)
	if e != api.OK || f != api.OK {
		t.Fatalf("%d: %v, %v", n, e, f)
	}
	return z
}

// stays is which of the first n steps are there behind a crash.
func stays(steps []api.Do, n int, keep []int) []bool {
	is := make([]bool, n)
	from := 0
	for i, d := range steps[:n] {
		if d.Sync {
			for ; from <= i; from++ {
				is[from] = true
			}
		}
	}
	for k := from; k < n; k++ {
		is[k] = len(keep) > 0 && keep[(k-from)%len(keep)]&1 == 1
	}
	return is
}

// keeps are numbers of many kinds.
func keeps() [][]int {
	return [][]int{nil, {}, {0}, {1}, {2}, {-1}, {-2}, {1, 0}, {0, 1}, {0, 0, 1}, {1, 0, 0}, {1, 1, 0}, {0, 1, 1}, {3, -3, 2, 5}, {0, 0, 0, 0, 1}, {1, 1, 1, 1, 0}, {math.MaxInt, math.MinInt}, {math.MinInt, math.MinInt, math.MaxInt}}
}

// parts are all lists of n of 0 and 1.
func parts(n int) [][]int {
	l := [][]int{nil}
	for range n {
		var next [][]int
		for _, x := range l {
			next = append(next, append(slices.Clone(x), 0), append(slices.Clone(x), 1))
		}
		l = next
	}
	return l
}

func three() [][]api.Row {
	return [][]api.Row{{row("new", strings.Repeat("n", api.MaxValue)), row("newer", "")}, {row("n", "n")}}
}

// cutSave cuts a Save at each place, with what waits there kept in each of these
// ways: Open tells what was there ahead, or map m alone; and that just from
// sector 0 on.
func cutSave(t *testing.T, x api.Tape, m [][]api.Row, kept [][]int) {
	t.Helper()
	before := read(t, x, len(m))
	steps, w := saves(t, before.w, m)
	behind := log{m, nil, w}
	for n := range len(steps) + 1 {
		for _, keep := range kept {
			want := before
			if is := stays(steps, n, keep); n >= len(steps)-1 && is[len(steps)-2] {
				want = behind
			}
			y := crashed(t, x, steps, n, keep)
			if got := read(t, y, len(m)); !same(got, want) {
				t.Fatalf("cut at %d of %d, %v: told, not:%s", n, len(steps), keep, short(got, want))
			}
			opens(t, y, len(m))
		}
	}
	if got := read(t, play(t, x, steps...), len(m)); !same(got, behind) {
		t.Fatalf("played whole: told, not:%s", short(got, behind))
	}
}

func TestPowerInSave(t *testing.T) {
	for times := 1; times <= 3; times++ {
		for _, records := range [][]api.Record{nil, {of(2)}, {heavy(2, 50), of(3), heavy(4, 30)}} {
			x, _ := made(t, times, two(), records...)
			cutSave(t, x, three(), slices.Concat(keeps(), parts(4)))
			cutSave(t, x, two(), keeps())
			cutSave(t, x, [][]api.Row{nil, nil}, keeps())
		}
		x, _ := made(t, times, [][]api.Row{rows(api.MaxRooms), nil}, of(2))
		cutSave(t, x, [][]api.Row{nil, rows(api.MaxRooms)}, keeps())
		cutSave(t, x, three(), keeps())
	}
}

// The first image has none ahead of it: there is no log, or that image.
func TestPowerInFormat(t *testing.T) {
	for _, m := range [][][]api.Row{{nil, nil}, two(), {rows(32), rows(32)}} {
		steps, w := formats(t, m)
		for n := range len(steps) + 1 {
			for _, keep := range keeps() {
				y := crashed(t, empty(t), steps, n, keep)
				if is := stays(steps, n, keep); n >= len(steps)-1 && is[len(steps)-2] {
					tells(t, y, m, nil, w)
				} else {
					bad(t, y, len(m))
				}
			}
		}
	}
}

// adding is records added one by one, with a Sync behind each of those whose
// place is in syncs; ends: how many steps there are behind each one's puts.
func adding(t *testing.T, w api.Wal, l []api.Record, syncs ...int) (steps []api.Do, ends []int) {
	t.Helper()
	for i, r := range l {
		more, next := adds(t, w, r)
		steps, w = append(steps, more...), next
		ends = append(ends, len(steps))
		if slices.Contains(syncs, i) {
			steps = append(steps, api.Do{Sync: true})
		}
	}
	return steps, ends
}

// whole is how many records, from the first one on, are there with all their sectors.
func whole(is []bool, ends []int) int {
	for i, end := range ends {
		if end > len(is) || slices.Contains(is[:end], false) {
			return i
		}
	}
	return len(ends)
}

// cutAdds cuts Adds and Syncs at each place, with what waits there kept in each
// of these ways: Open tells the records ahead, and those that are whole, in order.
func cutAdds(t *testing.T, x api.Tape, tables int, l []api.Record, kept [][]int, syncs ...int) {
	t.Helper()
	before := read(t, x, tables)
	steps, ends := adding(t, before.w, l, syncs...)
	told := map[int]bool{}
	for n := range len(steps) + 1 {
		for _, keep := range kept {
			many := whole(stays(steps, n, keep), ends)
			y := crashed(t, x, steps, n, keep)
			got := read(t, y, tables)
			at, seq := before.w.At, before.w.Seq+many
			for _, r := range l[:many] {
				at += len(laidOut(r, 1, 1))
			}
			want := log{before.m, slices.Concat(before.l, l[:many]), api.Wal{Run: before.w.Run, Slot: before.w.Slot, At: at, Seq: seq}}
			if !same(got, want) {
				t.Fatalf("cut at %d of %d, %v: %d are whole; told, not:%s", n, len(steps), keep, many, short(got, want))
			}
			opens(t, y, tables)
			told[many] = true
		}
	}
	if len(told) != len(l)+1 {
		t.Fatalf("of %d records: %v", len(l), told)
	}
}

func TestPowerInAdds(t *testing.T) {
	short := []api.Record{of(5, put(0, "a", "5")), heavy(6, 50), of(7, gone(0, "a")), heavy(8, 30)}
	long := []api.Record{heavy(5, 200), full(3), of(7), full(api.MaxRooms)}
	for times := 1; times <= 2; times++ {
		for _, ahead := range [][]api.Record{nil, {of(2)}, {heavy(2, 50), of(3), heavy(4, 30)}} {
			x, _ := made(t, times, two(), ahead...)
			cutAdds(t, x, 2, short, slices.Concat(keeps(), parts(7)), 3)
			cutAdds(t, x, 2, short, slices.Concat(keeps(), parts(4)), 0, 1, 2, 3)
			cutAdds(t, x, 2, short, slices.Concat(keeps(), parts(4)), 1, 3)
			cutAdds(t, x, 2, long, keeps(), 3)
			cutAdds(t, x, 2, long, keeps(), 1, 3)
		}
	}
}

// Up to the last sector there is.
func TestPowerAtTheTapesEnd(t *testing.T) {
	x, _ := made(t, 1, two(), slices.Repeat([]api.Record{of(2)}, api.MaxTape-api.LogAt-6)...)
	cutAdds(t, x, 2, []api.Record{heavy(3, 60), of(4), heavy(5, 40)}, slices.Concat(keeps(), parts(6)), 2)
}

// An older run's log lies where the records come: none of its is told, whatever
// of the new ones stays.
func TestPowerInAddsOverAnOlderRun(t *testing.T) {
	old := []api.Record{heavy(2, 50), of(3), heavy(4, 30), of(5), heavy(6, 50), of(7)}
	x, w := made(t, 1, two(), old...)
	l, _ := saves(t, w, three())
	x = play(t, x, l...)
	cutAdds(t, x, 2, []api.Record{heavy(8, 50), of(9), heavy(10, 30)}, slices.Concat(keeps(), parts(6)), 2)
	cutAdds(t, x, 2, []api.Record{of(8), heavy(9, 61), of(10)}, slices.Concat(keeps(), parts(6)), 0, 2)
}

// Behind a Save that was cut, another one, that is cut, too; also with records
// between, whatever the first one left behind.
func TestPowerInASaveBehindACutOne(t *testing.T) {
	few := [][]int{nil, {1}, {1, 0}, {0, 1}, {0, 0, 1}, {1, 1, 0}}
	for times := 1; times <= 2; times++ {
		x, w := made(t, times, two(), heavy(2, 50), of(3))
		steps, _ := saves(t, w, three())
		for n := range len(steps) + 1 {
			for _, keep := range few {
				y := crashed(t, x, steps, n, keep)
				cutSave(t, y, [][]api.Row{{row("third", "3")}, nil}, few)
				cutSave(t, y, three(), few)
				between, v := adds(t, read(t, y, 2).w, heavy(9, 30))
				y = play(t, y, append(between, api.Do{Sync: true})...)
				if got := read(t, y, 2); got.w != v || len(got.l) == 0 || !sameRecord(got.l[len(got.l)-1], heavy(9, 30)) {
					t.Fatalf("cut at %d, %v:%s", n, keep, short(got))
				}
				cutSave(t, y, [][]api.Row{{row("third", "3")}, nil}, few)
			}
		}
	}
}

// Behind Adds that were cut: a Save, that is cut, too, and then Adds anew. What
// lay behind a gap is of an older run then.
func TestPowerInASaveBehindCutAdds(t *testing.T) {
	few := [][]int{nil, {1}, {1, 0}, {0, 1}, {0, 0, 1}, {1, 1, 0}}
	x, w := made(t, 2, two(), of(2))
	steps, _ := adding(t, w, []api.Record{heavy(3, 30), of(4), heavy(5, 30)}, 2)
	for n := range len(steps) + 1 {
		for _, keep := range few {
			y := crashed(t, x, steps, n, keep)
			cutSave(t, y, three(), few)
			save, _ := saves(t, read(t, y, 2).w, three())
			y = play(t, y, save...)
			cutAdds(t, y, 2, []api.Record{heavy(6, 30), of(7), of(8)}, few, 2)
		}
	}
}

// What is told is told again, and a crash where nothing waits changes nothing.
func TestOpenAgain(t *testing.T) {
	x, _ := made(t, 3, two(), heavy(2, 50), of(3))
	first := read(t, x, 2)
	for _, keep := range keeps() {
		if got := read(t, crashed(t, x, nil, 0, keep), 2); !same(got, first) {
			t.Errorf("%v:%s", keep, short(got, first))
		}
	}
}

// walker is a log that lives: what was synced, and what waits, as the words let
// it be told.
type walker struct {
	numbers uint32
	tape    api.Tape
	at      log          // what is told, if the power goes and nothing stays
	waits   []api.Record // added behind it
	puts    []int        // how many sectors each of these has
	next    api.Wal
	commit  int
}

func (k *walker) below(n int) int {
	k.numbers = k.numbers*1664525 + 1013904223
	return int(k.numbers>>8) % n
}

func (k *walker) keep() []int {
	var l []int
	for range k.below(6) {
		l = append(l, k.below(5)-2)
	}
	return l
}

func (k *walker) record() api.Record {
	k.commit++
	r := of(k.commit)
	for range k.below(5) {
		w := put(k.below(2), one(97+k.below(5)), strings.Repeat("v", k.below(api.MaxValue+1)))
		if k.below(3) == 0 {
			w = gone(w.Table, w.Key)
		}
		r.Writes = append(r.Writes, w)
	}
	return r
}

func (k *walker) now(t *testing.T) [][]api.Row {
	return leadsTo(t, k.at.m, slices.Concat(k.at.l, k.waits)...)
}

// save is tried till it is whole: the power may go again and again.
func (k *walker) save(t *testing.T) {
	t.Helper()
	for {
		m := k.now(t)
		steps, w := saves(t, k.next, m)
		n, keep := k.below(2*len(steps)), k.keep()
		behind := log{m, nil, w}
		if n >= len(steps) {
			k.tape = play(t, k.tape, steps...)
			k.at, k.waits, k.puts, k.next = behind, nil, nil, w
			return
		}
		if len(k.waits) > 0 {
			k.sync(t)
		}
		if is := stays(steps, n, keep); n == len(steps)-1 && is[n-1] {
			k.at = behind
		}
		k.tape = crashed(t, k.tape, steps, n, keep)
		k.next = k.at.w
		k.told(t)
	}
}

func (k *walker) add(t *testing.T) {
	t.Helper()
	r := k.record()
	steps, w, e := wal.Add(k.next, r)
	if e == api.ErrFull {
		k.sync(t)
		k.save(t)
		return
	}
	k.tape = play(t, k.tape, steps...)
	k.waits, k.puts, k.next = append(k.waits, r), append(k.puts, len(steps)), w
}

func (k *walker) sync(t *testing.T) {
	t.Helper()
	k.tape = play(t, k.tape, api.Do{Sync: true})
	k.at.l, k.at.w = slices.Concat(k.at.l, k.waits), k.next
	k.waits, k.puts = nil, nil
}

// crash lets of what waits stay what the numbers tell; and as what lies behind a
// gap is there still, a Save comes behind it.
func (k *walker) crash(t *testing.T) {
	t.Helper()
	keep := k.keep()
	at := 0
	for i, many := range k.puts {
		stay := 0
		for range many {
			if len(keep) > 0 && keep[at%len(keep)]&1 == 1 {
				stay++
			}
			at++
		}
		if stay < many {
			break
		}
		k.at.l = append(slices.Clone(k.at.l), k.waits[i])
		k.at.w.At, k.at.w.Seq = k.at.w.At+many, k.at.w.Seq+1
	}
	k.waits, k.puts, k.next = nil, nil, k.at.w
	k.tape = crashed(t, k.tape, nil, 0, keep)
	k.told(t)
	k.save(t)
}

func (k *walker) told(t *testing.T) {
	t.Helper()
	if got := read(t, k.tape, 2); !same(got, k.at) {
		t.Fatalf("told, not:%s", short(got, k.at))
	}
}

func TestLongWalks(t *testing.T) {
	for start := range uint32(12) {
		k := &walker{numbers: start, commit: 1}
		steps, w := formats(t, two())
		k.tape, k.at, k.next = play(t, empty(t), steps...), log{two(), nil, w}, w
		for range 300 {
			switch k.below(8) {
			case 0:
				k.sync(t)
				k.told(t)
			case 1:
				k.crash(t)
			case 2:
				if k.below(4) == 0 {
					k.sync(t)
					k.save(t)
					k.told(t)
				}
			default:
				k.add(t)
			}
		}
		k.sync(t)
		k.told(t)
	}
}
