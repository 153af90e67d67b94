package tape_test

import (
	"slices"
	"testing"

	"quorum/api"
	"quorum/tape"
)

// P18.3

// sectorLog is what became of a sector, from outside: the text as it was synced
// last (or as it was from the begin on), and those that were put behind it.
type sectorLog struct {
	synced string
	since  []string
}

// walk is a tape, step by step, and what its sectors may be.
type walk struct {
	tape api.Tape
	log  []sectorLog
}

func begun(t *testing.T, n int) walk {
	t.Helper()
	x, e := tape.New(n)
	if e != api.OK {
		t.Fatal(e)
	}
	w := walk{tape: x}
	for range n {
		w.log = append(w.log, sectorLog{synced: text(0)})
	}
	return w
}

// step plays one step more; there is no such text twice, so that each tells
// which put it is of.
func (w walk) step(t *testing.T, d api.Do) walk {
	t.Helper()
	x, e := tape.Play(w.tape, -1, d)
	if e != api.OK {
		t.Fatal(e)
	}
	next := walk{tape: x, log: slices.Clone(w.log)}
	if d.Sync {
		for i, s := range next.log {
			if len(s.since) > 0 {
				next.log[i] = sectorLog{synced: s.since[len(s.since)-1]}
			}
		}
		return next
	}
	at := &next.log[d.Put.At]
	at.since = append(slices.Clone(at.since), d.Put.Text)
	return next
}

// crash is the tape behind it: each sector is as it was when it was synced
// last, or as one of the puts that waited made it; what it is then is what a
// later crash leaves.
func (w walk) crash(t *testing.T, l ...int) walk {
	t.Helper()
	x, e := tape.Crash(w.tape, l...)
	if n, f := tape.Waits(x); n != 0 || e != api.OK || f != api.OK {
		t.Fatalf("%v: %d, %v, %v", l, n, e, f)
	}
	next := walk{tape: x}
	for i, was := range w.log {
		s, e := tape.Read(x, i)
		if e != api.OK || s != x.Sectors[i] || s != was.synced && !slices.Contains(was.since, s) {
			t.Fatalf("%v, %d: %q, %v, not of %q", l, i, s, e, was)
		}
		next.log = append(next.log, sectorLog{synced: s})
	}
	return next
}

// shown holds each sector to the text that was put last.
func (w walk) shown(t *testing.T) {
	t.Helper()
	for i, was := range w.log {
		want := was.synced
		if n := len(was.since); n > 0 {
			want = was.since[n-1]
		}
		if s, e := tape.Read(w.tape, i); s != want || e != api.OK {
			t.Fatalf("%d: %q, %v, not %q", i, s, e, want)
		}
	}
}

// Kinds of moves: a put at a sector (its number), a Sync, a crash of numbers.
const (
	moveSync = -1 - iota
	moveCrash
	moveCrashAll
	moveCrashSome
	moveCrashOthers
)

func (w walk) move(t *testing.T, kind int, fresh string) walk {
	t.Helper()
	switch kind {
	case moveSync:
		return w.step(t, sync())
	case moveCrash:
		return w.crash(t)
	case moveCrashAll:
		return w.crash(t, 1)
	case moveCrashSome:
		return w.crash(t, 1, 0)
	case moveCrashOthers:
		return w.crash(t, 0, -1, 2)
	}
	return w.step(t, put(kind, fresh))
}

func TestAllShortWalks(t *testing.T) {
	for _, l := range lists([]int{0, 1, moveSync, moveCrash, moveCrashAll, moveCrashSome}, 6) {
		w := begun(t, 2)
		for i, kind := range l {
			w = w.move(t, kind, text(byte('a'+i)))
			w.shown(t)
		}
	}
}

// numbers are of a rule of its own, so that each run walks the same.
type numbers uint32

func (n *numbers) below(most int) int {
	*n = *n*1664525 + 1013904223
	return int(*n>>8) % most
}

func TestLongWalks(t *testing.T) {
	for start := range numbers(40) {
		from := start
		sectors := 1 + from.below(9)
		w := begun(t, sectors)
		for i := range 400 {
			kind := from.below(sectors + 9)
			if kind >= sectors {
				kind = moveSync - (kind-sectors)%5
			}
			if from.below(3) > 0 && kind < 0 {
				kind = from.below(sectors)
			}
			w = w.move(t, kind, kinds(byte(i))[:api.Sector-2]+string([]byte{byte(i >> 8), byte(i)}))
			w.shown(t)
		}
	}
}

// What was synced is there behind any number of crashes, of any numbers, also
// with puts at other sectors amid.
func TestWhatWasSyncedStays(t *testing.T) {
	x, _ := tape.New(4)
	x, e := tape.Play(x, -1, put(0, text('a')), put(3, text('b')), put(0, text('c')), sync())
	for i, l := range lists([]int{0, 1, -1, 6}, 4) {
		if e != api.OK {
			t.Fatal(e)
		}
		x, e = tape.Crash(x, l...)
		if s, f := tape.Read(x, 0); s != text('c') || f != api.OK || x.Sectors[3] != text('b') || e != api.OK {
			t.Fatalf("%v: %s, %v", l, short(x), e)
		}
		x, e = tape.Play(x, -1, put(1+i%2, text(byte(i))), put(2, text('y')))
	}
	// till it is put anew, and that stays
	for _, l := range [][]int{nil, {0}, {1}, {0, 1}} {
		y, e := tape.Play(x, -1, put(3, text('d')), sync())
		z, f := tape.Crash(y, l...)
		if s, g := tape.Read(z, 3); s != text('d') || z.Sectors[0] != text('c') || e != api.OK || f != api.OK || g != api.OK {
			t.Errorf("%v: %s", l, short(z))
		}
		y, e = tape.Play(z, -1, put(3, text('e')))
		none, f := tape.Crash(y)
		all, g := tape.Crash(y, 1)
		if none.Sectors[3] != text('d') || all.Sectors[3] != text('e') || e != api.OK || f != api.OK || g != api.OK {
			t.Errorf("%v: %s", l, short(none, all))
		}
	}
}

// A crash may leave of what waits just any part.
func TestEachPartMayStay(t *testing.T) {
	const many = 6
	var puts []api.Put
	for i := range many {
		puts = append(puts, waits(i, text(byte('p'+i))))
	}
	x := of("abcdef", puts...)
	for part := range 1 << many {
		var l []int
		want := []byte("abcdef")
		for i := range many {
			l = append(l, part>>i&1)
			if part>>i&1 == 1 {
				want[i] = byte('p' + i)
			}
		}
		if y, e := tape.Crash(x, l...); !same(y, of(string(want))) || e != api.OK {
			t.Fatalf("%v: %s, %v", l, short(y), e)
		}
	}
}

// Steps in two parts lead to where they lead at once, and a Sync of all to
// where a crash leads in which all stay.
func TestPartsOfSteps(t *testing.T) {
	things := []api.Do{put(0, text('q')), put(1, text('r')), put(0, text('s')), sync()}
	x := of("ab", waits(1, text('x')))
	for _, l := range lists(things, 5) {
		whole, _ := tape.Play(x, -1, l...)
		for n := range len(l) + 1 {
			y, e := tape.Play(x, n, l...)
			z, f := tape.Play(y, -1, l[n:]...)
			if !same(z, whole) || e != api.OK || f != api.OK {
				t.Fatalf("%d:%s", n, short(l, z, whole))
			}
			all, e := tape.Crash(y, 1)
			synced, f := tape.Play(y, -1, sync())
			if !same(all, synced) || e != api.OK || f != api.OK {
				t.Fatalf("%d:%s", n, short(l, all, synced))
			}
		}
	}
}
