package pend_test

import (
	"fmt"
	"math"
	"slices"
	"strconv"
	"strings"
	"testing"

	"quorum/api"
	"quorum/pend"
)

func put(table int, k, v string) api.Write { return api.Write{Table: table, Key: k, Value: v} }

func gone(table int, k string) api.Write { return api.Write{Table: table, Key: k, Gone: true} }

func of(l ...api.Write) api.Pend { return api.Pend{List: l} }

func marked(p api.Pend, marks ...int) api.Pend { return api.Pend{List: p.List, Marks: marks} }

func long(n int) string { return strings.Repeat("x", n) }

// some has keys that were written twice, in one table and in several, writes
// that are Gone, first, last and in between, an empty value, and marks behind
// each other, with writes between and without.
func some() api.Pend {
	return marked(of(
		put(2, "m", "1"), gone(0, "b"), put(0, "m", "3"), put(0, "b", "4"), put(2, "m", ""),
		gone(2, "a"), put(1, "b", "7"), gone(0, "m"), put(1, "b\x00", "9"),
	), 0, 3, 3, 6, 9)
}

// filled has n writes, of all tables, of keys that come again.
func filled(n int) api.Pend {
	var p api.Pend
	for i := range n {
		w := put(i*2%api.MaxTables, "k"+strconv.Itoa(i*5%7), strconv.Itoa(i))
		if i%4 == 3 {
			w.Value, w.Gone = "", true
		}
		p.List = append(p.List, w)
	}
	return p
}

// near has the shortest and the longest texts.
func near() api.Pend {
	top := strings.Repeat("\xff", api.MaxKey)
	return marked(of(
		put(0, top, long(api.MaxValue)), put(0, "\x00", ""), gone(api.MaxTables-1, long(api.MaxKey)), put(api.MaxTables-1, "\x00\x00", strings.Repeat("\x00", api.MaxValue)),
		put(0, "\x80", "v"), put(0, "\x7f", "v"), gone(0, top), put(1, " ", " "),
	), 8, 8, 8, 8, 8, 8)
}

// small are all lists of up to n of these writes.
func small(n int) []api.Pend {
	writes := []api.Write{put(0, "a", "1"), gone(0, "a"), put(0, "aa", ""), put(1, "a", "4"), gone(2, "B"), put(1, "B", "6")}
	all := []api.Pend{{}}
	for from := 0; n > 0; n-- {
		upTo := len(all)
		for _, p := range all[from:upTo] {
			for _, w := range writes {
				all = append(all, of(append(slices.Clone(p.List), w)...))
			}
		}
		from = upTo
	}
	return all
}

// marksUpTo are all lists of up to n numbers from low to high.
func marksUpTo(n, low, high int) [][]int {
	all := [][]int{nil}
	for from := 0; n > 0; n-- {
		upTo := len(all)
		for _, l := range all[from:upTo] {
			for m := low; m <= high; m++ {
				all = append(all, append(slices.Clone(l), m))
			}
		}
		from = upTo
	}
	return all
}

// full have as many writes, or marks, as there may be, and one less.
func full() []api.Pend {
	all, less := filled(api.MaxOps), filled(api.MaxOps-1)
	return []api.Pend{
		all, less, of(slices.Repeat([]api.Write{put(1, "k", "v")}, api.MaxOps)...),
		marked(all, slices.Repeat([]int{api.MaxOps}, api.MaxMarks)...), marked(all, 0, 2, 4, 6, 8, 10), marked(all, make([]int, api.MaxMarks)...),
		marked(less, slices.Repeat([]int{api.MaxOps - 1}, api.MaxMarks-1)...), marked(less, 0, 1, 1, 3, 5, 8),
	}
}

// pends are of all shapes, with marks and without.
func pends() []api.Pend {
	all := slices.Concat(small(3), full(), []api.Pend{some(), near()})
	for _, p := range small(2) {
		for _, marks := range marksUpTo(3, 0, len(p.List)) {
			if slices.IsSorted(marks) {
				all = append(all, marked(p, marks...))
			}
		}
	}
	for n := range api.MaxMarks + 1 {
		all = append(all, marked(api.Pend{}, make([]int, n)...))
	}
	return all
}

func badKeys() []string {
	return []string{"", long(api.MaxKey + 1), long(1 << 16), strings.Repeat("\x00", api.MaxKey+1), strings.Repeat("\u00e9", api.MaxKey/2+1)}
}

func badTables() []int {
	return []int{-1, math.MinInt, api.MaxTables, api.MaxTables + 1, math.MaxInt}
}

// badWrites may not be pending.
func badWrites() []api.Write {
	l := []api.Write{{}, {Gone: true}, {Table: 1, Value: "v"}, put(0, "a", long(api.MaxValue+1)), put(0, "a", long(1<<16)), {Key: "a", Value: "v", Gone: true}, {Key: "a", Value: "\x00", Gone: true}, {Key: "a", Value: long(api.MaxValue + 1), Gone: true}, {Table: 2, Key: long(api.MaxKey), Value: long(api.MaxValue), Gone: true}}
	for _, k := range badKeys() {
		l = append(l, put(0, k, "v"), gone(api.MaxTables-1, k))
	}
	for _, table := range badTables() {
		l = append(l, put(table, "a", "v"), gone(table, "a"))
	}
	return l
}

// badMarks may not be beside n writes.
func badMarks(n int) [][]int {
	l := [][]int{{-1}, {math.MinInt}, {-1, 0}, {0, -1}, {n + 1}, {n + 2}, {math.MaxInt}, {0, n + 1}, {n, n + 1}, make([]int, api.MaxMarks+1), slices.Repeat([]int{n}, api.MaxMarks+1), make([]int, 3*api.MaxMarks)}
	if n > 0 {
		l = append(l, []int{n, n - 1}, []int{n, 0}, []int{0, n, n - 1}, []int{1, 0, n}, []int{0, 1, 0}, []int{n, n, n, n, n, n - 1})
	}
	return l
}

func badPends() []api.Pend {
	l := []api.Pend{filled(api.MaxOps + 1), filled(api.MaxOps + 2), filled(3 * api.MaxOps), marked(filled(api.MaxOps+1), 0, 1), marked(filled(api.MaxOps+1), api.MaxOps+1)}
	for _, w := range badWrites() {
		l = append(l, of(w), of(put(0, "a", "v"), w), of(w, put(0, "a", "v")), marked(of(put(1, "b", ""), w, gone(1, "b")), 0, 3), of(append(filled(api.MaxOps-1).List, w)...))
	}
	for _, p := range []api.Pend{{}, of(put(0, "a", "v")), of(put(0, "a", "v"), gone(0, "a")), filled(5), filled(api.MaxOps)} {
		for _, marks := range badMarks(len(p.List)) {
			l = append(l, marked(p, marks...))
		}
	}
	return l
}

// The words of the chapter, gone through write by write.

func lastOf(p api.Pend, table int, k string) (api.Write, api.Errno) {
	told, e := api.Write{}, api.ErrNone
	for _, w := range p.List {
		if w.Table == table && w.Key == k {
			told, e = w, api.OK
		}
	}
	return told, e
}

func keysOf(p api.Pend) []string {
	var l []string
	for _, w := range p.List {
		l = append(l, w.Key)
	}
	slices.Sort(l)
	return slices.Compact(l)
}

func sumOf(p api.Pend) []api.Write {
	var l []api.Write
	for table := range api.MaxTables {
		for _, k := range keysOf(p) {
			if w, e := lastOf(p, table, k); e == api.OK {
				l = append(l, w)
			}
		}
	}
	return l
}

func marksMayBe(marks []int, writes int) bool {
	for at, m := range marks {
		if m < 0 || m > writes || at > 0 && m < marks[at-1] {
			return false
		}
	}
	return len(marks) <= api.MaxMarks
}

func copyOf(p api.Pend) api.Pend {
	return api.Pend{List: slices.Clone(p.List), Marks: slices.Clone(p.Marks)}
}

func equal(a, b api.Pend) bool { return slices.Equal(a.List, b.List) && slices.Equal(a.Marks, b.Marks) }

func isZero(p api.Pend) bool { return len(p.List) == 0 && len(p.Marks) == 0 }

// Errors

type errnos struct{ check, put, last, sum, save, back, release api.Errno }

func allForm() errnos {
	return errnos{api.ErrForm, api.ErrForm, api.ErrForm, api.ErrForm, api.ErrForm, api.ErrForm, api.ErrForm}
}

// asked is what all calls are asked with.
type asked struct {
	w     api.Write
	table int
	k     string
	n     int
}

// ask calls each one, and holds what is beside an error to be zero.
func ask(t *testing.T, p api.Pend, a asked) errnos {
	t.Helper()
	more, put := pend.Put(p, a.w)
	w, last := pend.Last(p, a.table, a.k)
	l, sum := pend.Sum(p)
	kept, n, save := pend.Save(p)
	old, back := pend.Return(p, a.n)
	less, release := pend.Release(p, a.n)
	if put != api.OK && !isZero(more) || last != api.OK && w != (api.Write{}) || sum != api.OK && len(l) > 0 || save != api.OK && (n != 0 || !isZero(kept)) || back != api.OK && !isZero(old) || release != api.OK && !isZero(less) {
		t.Fatalf("%v, %v: beside an error: %v, %v, %v, %v, %d, %v, %v", p, a, more, w, l, kept, n, old, less)
	}
	return errnos{pend.Check(p), put, last, sum, save, back, release}
}

func TestWhatMayBePending(t *testing.T) {
	for i, p := range append(pends(), api.Pend{}) {
		if e := pend.Check(p); e != api.OK {
			t.Errorf("%d: %v: %v", i, p, e)
		}
	}
}

// R4: ErrForm stands ahead of ErrLimit, ErrNone and ErrMark.
func TestWhatMayNotBePending(t *testing.T) {
	for i, p := range badPends() {
		for _, a := range []asked{{put(0, "a", "v"), 0, "a", 0}, {gone(2, "z"), 2, "z", 1}, {put(1, "a", ""), 1, "nowhere", -1}, {api.Write{}, -1, "", 99}} {
			if e := ask(t, p, a); e != allForm() {
				t.Errorf("%d, %v: %v", i, a, e)
			}
		}
	}
}

// As many writes and marks as there may be, and more, in each combination.
func TestSizes(t *testing.T) {
	for writes := range 2 * api.MaxOps {
		for marks := range 2 * api.MaxMarks {
			for _, m := range []int{0, writes / 2, writes} {
				want := api.OK
				if writes > api.MaxOps || marks > api.MaxMarks {
					want = api.ErrForm
				}
				if e := pend.Check(marked(filled(writes), slices.Repeat([]int{m}, marks)...)); e != want {
					t.Errorf("%d writes, %d marks at %d: %v, not %v", writes, marks, m, e, want)
				}
			}
		}
	}
}

// Marks that are alike, that rise and that fall, ahead of the writes, among them
// and behind them.
func TestAllMarks(t *testing.T) {
	for writes := range 4 {
		for _, marks := range marksUpTo(4, -1, writes+1) {
			want := api.OK
			if !marksMayBe(marks, writes) {
				want = api.ErrForm
			}
			if e := pend.Check(marked(filled(writes), marks...)); e != want {
				t.Errorf("%d writes, %v: %v, not %v", writes, marks, e, want)
			}
		}
	}
}

// Each length that a text may have, each table that there may be.
func TestWritesThatMayBe(t *testing.T) {
	for _, isGone := range []bool{false, true} {
		for table := -2; table < api.MaxTables+2; table++ {
			for k := range api.MaxKey + 3 {
				for v := range api.MaxValue + 3 {
					want := api.OK
					if table < 0 || table >= api.MaxTables || k < 1 || k > api.MaxKey || v > api.MaxValue || isGone && v > 0 {
						want = api.ErrForm
					}
					w := api.Write{Table: table, Key: long(k), Value: long(v), Gone: isGone}
					x, e := pend.Put(api.Pend{}, w)
					if e != want || e == api.OK && !equal(x, of(w)) || e != api.OK && !isZero(x) {
						t.Fatalf("Put %v: %v, %v, not %v", w, x, e, want)
					}
					if e := pend.Check(of(w)); e != want {
						t.Fatalf("Check %v: %v, not %v", w, e, want)
					}
				}
			}
		}
	}
}

// P10.1

func TestPut(t *testing.T) {
	for i, c := range []struct {
		p    api.Pend
		w    api.Write
		want api.Pend
	}{
		{api.Pend{}, put(0, "a", "v"), of(put(0, "a", "v"))},
		{api.Pend{}, gone(api.MaxTables-1, "a"), of(gone(api.MaxTables-1, "a"))},
		{of(put(0, "b", "1")), put(0, "a", ""), of(put(0, "b", "1"), put(0, "a", ""))},
		{of(put(0, "b", "1")), put(0, "b", "1"), of(put(0, "b", "1"), put(0, "b", "1"))},
		{of(put(0, "b", "1")), gone(0, "b"), of(put(0, "b", "1"), gone(0, "b"))},
		{of(gone(0, "b")), gone(0, "b"), of(gone(0, "b"), gone(0, "b"))},
		{of(put(1, "b", "1")), put(0, "b", "2"), of(put(1, "b", "1"), put(0, "b", "2"))},
		{marked(api.Pend{}, 0, 0), put(0, "a", "v"), marked(of(put(0, "a", "v")), 0, 0)},
		{marked(of(gone(0, "b")), 0, 1, 1), put(0, "a", "v"), marked(of(gone(0, "b"), put(0, "a", "v")), 0, 1, 1)},
	} {
		if x, e := pend.Put(c.p, c.w); !equal(x, c.want) || e != api.OK || pend.Check(x) != api.OK {
			t.Errorf("%d: %v, %v", i, x, e)
		}
	}
}

func TestPutEverywhere(t *testing.T) {
	for i, p := range pends() {
		for _, w := range []api.Write{put(0, "a", "new"), gone(2, "m"), put(1, "b", ""), put(2, long(api.MaxKey), long(api.MaxValue))} {
			x, e := pend.Put(p, w)
			if len(p.List) == api.MaxOps {
				if !isZero(x) || e != api.ErrLimit {
					t.Fatalf("%d: %v, %v", i, x, e)
				}
				continue
			}
			if !equal(x, marked(of(append(slices.Clone(p.List), w)...), p.Marks...)) || e != api.OK || pend.Check(x) != api.OK {
				t.Fatalf("%d: %v, %v, %v", i, p, x, e)
			}
		}
	}
}

// As many writes as MaxOps, and one more: also of a key that is there already.
func TestPutUpToTheLimit(t *testing.T) {
	for i, w := range []api.Write{put(0, "k0", "v"), gone(1, "k5"), put(2, "other", "")} {
		p := marked(api.Pend{}, 0)
		for n := range api.MaxOps {
			x, e := pend.Put(p, w)
			if e != api.OK || len(x.List) != n+1 || x.List[n] != w {
				t.Fatalf("%d, %d: %v, %v", i, n, x, e)
			}
			p = x
		}
		for _, more := range []api.Write{w, put(0, "new", "v"), gone(1, "new")} {
			if x, e := pend.Put(p, more); !isZero(x) || e != api.ErrLimit {
				t.Errorf("%d: %v, %v", i, x, e)
			}
		}
		old, _ := pend.Return(p, 0)
		if x, e := pend.Put(old, w); !equal(x, marked(of(w), 0)) || e != api.OK {
			t.Errorf("%d: behind Return: %v, %v", i, x, e)
		}
	}
}

// R4: also where there is no room.
func TestPutOfWhatMayNotBe(t *testing.T) {
	for i, p := range append(full(), api.Pend{}, some(), near(), of(put(0, "a", "v"))) {
		for _, w := range badWrites() {
			if x, e := pend.Put(p, w); !isZero(x) || e != api.ErrForm {
				t.Errorf("%d, %v: %v, %v", i, w, x, e)
			}
		}
	}
}

func TestLast(t *testing.T) {
	top := strings.Repeat("\xff", api.MaxKey)
	for i, c := range []struct {
		p     api.Pend
		table int
		k     string
		want  api.Write
		e     api.Errno
	}{
		{some(), 2, "m", put(2, "m", ""), api.OK}, {some(), 0, "m", gone(0, "m"), api.OK}, {some(), 0, "b", put(0, "b", "4"), api.OK}, {some(), 2, "a", gone(2, "a"), api.OK}, {some(), 1, "b", put(1, "b", "7"), api.OK}, {some(), 1, "b\x00", put(1, "b\x00", "9"), api.OK},
		{some(), 1, "m", api.Write{}, api.ErrNone}, {some(), 2, "b", api.Write{}, api.ErrNone}, {some(), 0, "a", api.Write{}, api.ErrNone}, {some(), 0, "b\x00", api.Write{}, api.ErrNone}, {some(), 1, "b\x00\x00", api.Write{}, api.ErrNone}, {some(), 0, "B", api.Write{}, api.ErrNone},
		{near(), 0, top, gone(0, top), api.OK}, {near(), 2, long(api.MaxKey), gone(2, long(api.MaxKey)), api.OK}, {near(), 2, long(api.MaxKey - 1), api.Write{}, api.ErrNone}, {near(), 0, "\x00", put(0, "\x00", ""), api.OK}, {near(), 0, "\x00\x00", api.Write{}, api.ErrNone},
		{api.Pend{}, 0, "a", api.Write{}, api.ErrNone}, {api.Pend{}, api.MaxTables - 1, long(api.MaxKey), api.Write{}, api.ErrNone}, {of(put(0, "a", "v")), 0, "a", put(0, "a", "v"), api.OK}, {of(gone(0, "a"), put(0, "a", "v")), 0, "a", put(0, "a", "v"), api.OK}, {of(put(0, "a", "v"), gone(0, "a")), 0, "a", gone(0, "a"), api.OK}, {of(put(0, "a", "v"), put(1, "a", "w")), 0, "a", put(0, "a", "v"), api.OK},
	} {
		if w, e := pend.Last(c.p, c.table, c.k); w != c.want || e != c.e {
			t.Errorf("%d: %d, %q: %v, %v", i, c.table, c.k, w, e)
		}
	}
}

// Of all tables, of all keys that there are, and of some that are not.
func TestLastEverywhere(t *testing.T) {
	for _, p := range pends() {
		for _, k := range append(keysOf(p), "a", "aa", "a\x00", "\x00", "zz") {
			for table := range api.MaxTables {
				want, wantE := lastOf(p, table, k)
				if w, e := pend.Last(p, table, k); w != want || e != wantE {
					t.Fatalf("%v, %d, %q: %v, %v, not %v, %v", p, table, k, w, e, want, wantE)
				}
			}
		}
	}
}

// R4: also where there is no such write.
func TestLastOfWhatMayNotBe(t *testing.T) {
	for i, p := range append(full(), api.Pend{}, some(), near()) {
		for _, table := range []int{0, 1, api.MaxTables - 1} {
			for _, k := range badKeys() {
				if w, e := pend.Last(p, table, k); w != (api.Write{}) || e != api.ErrForm {
					t.Errorf("%d: %d, %d bytes: %v, %v", i, table, len(k), w, e)
				}
			}
		}
		for _, table := range badTables() {
			for _, k := range append(badKeys(), "a", "m", "k0") {
				if w, e := pend.Last(p, table, k); w != (api.Write{}) || e != api.ErrForm {
					t.Errorf("%d: %d, %q: %v, %v", i, table, k, w, e)
				}
			}
		}
	}
}

func TestSum(t *testing.T) {
	top := strings.Repeat("\xff", api.MaxKey)
	for i, c := range []struct {
		p    api.Pend
		want []api.Write
	}{
		{api.Pend{}, nil}, {marked(api.Pend{}, 0, 0), nil},
		{of(put(0, "a", "v")), []api.Write{put(0, "a", "v")}}, {of(gone(2, "a")), []api.Write{gone(2, "a")}},
		{of(put(0, "a", "1"), put(0, "a", "2")), []api.Write{put(0, "a", "2")}}, {of(put(0, "a", "1"), gone(0, "a")), []api.Write{gone(0, "a")}}, {of(gone(0, "a"), put(0, "a", "2")), []api.Write{put(0, "a", "2")}},
		{of(put(0, "b", "1"), put(0, "a", "2"), put(0, "b", "3"), put(0, "a", "4"), put(0, "b", "5")), []api.Write{put(0, "a", "4"), put(0, "b", "5")}},
		{of(put(2, "a", "1"), put(1, "b", "2"), put(0, "c", "3")), []api.Write{put(0, "c", "3"), put(1, "b", "2"), put(2, "a", "1")}},
		{of(put(1, "a", "1"), put(0, "a", "2"), put(1, "a", "3")), []api.Write{put(0, "a", "2"), put(1, "a", "3")}},
		{of(put(0, "b", ""), put(0, "aa", ""), put(0, "a\x00", ""), put(0, "a", ""), put(0, "B", "")), []api.Write{put(0, "B", ""), put(0, "a", ""), put(0, "a\x00", ""), put(0, "aa", ""), put(0, "b", "")}},
		{some(), []api.Write{put(0, "b", "4"), gone(0, "m"), put(1, "b", "7"), put(1, "b\x00", "9"), gone(2, "a"), put(2, "m", "")}},
		{near(), []api.Write{put(0, "\x00", ""), put(0, "\x7f", "v"), put(0, "\x80", "v"), gone(0, top), put(1, " ", " "), put(2, "\x00\x00", strings.Repeat("\x00", api.MaxValue)), gone(2, long(api.MaxKey))}},
		{of(slices.Repeat([]api.Write{put(1, "k", "v")}, api.MaxOps)...), []api.Write{put(1, "k", "v")}},
	} {
		if l, e := pend.Sum(c.p); !slices.Equal(l, c.want) || e != api.OK {
			t.Errorf("%d: %v, %v", i, l, e)
		}
	}
}

// As many keys as writes, and fewer; marks change nothing.
func TestSumEverywhere(t *testing.T) {
	all := slices.Concat(pends(), small(4))
	for n := range api.MaxOps + 1 {
		all = append(all, filled(n), marked(filled(n), 0, n, n))
		var falling api.Pend
		for i := range n {
			falling.List = append(falling.List, put((n-i)/5, "k"+strconv.Itoa(90-i), strconv.Itoa(i)))
		}
		all = append(all, falling)
	}
	for _, p := range all {
		if l, e := pend.Sum(p); !slices.Equal(l, sumOf(p)) || e != api.OK {
			t.Fatalf("%v: %v, %v, not %v", p, l, e, sumOf(p))
		}
	}
}

// P10.2

func TestSave(t *testing.T) {
	for i, c := range []struct {
		p    api.Pend
		want []int
	}{
		{api.Pend{}, []int{0}}, {marked(api.Pend{}, 0), []int{0, 0}}, {of(put(0, "a", "v")), []int{1}}, {marked(of(put(0, "a", "v")), 0), []int{0, 1}}, {marked(of(put(0, "a", "v")), 1), []int{1, 1}},
		{some(), []int{0, 3, 3, 6, 9, 9}}, {filled(api.MaxOps), []int{api.MaxOps}}, {marked(filled(api.MaxOps), 0, 0, 0, 7, 7), []int{0, 0, 0, 7, 7, api.MaxOps}},
	} {
		x, n, e := pend.Save(c.p)
		if !equal(x, marked(c.p, c.want...)) || n != len(c.p.Marks) || e != api.OK || pend.Check(x) != api.OK {
			t.Errorf("%d: %v, %d, %v", i, x, n, e)
		}
	}
}

// As many marks as MaxMarks, and one more: with writes between, and without.
func TestSaveUpToTheLimit(t *testing.T) {
	for each := range 3 {
		var p api.Pend
		var marks []int
		for at := range api.MaxMarks {
			for range each {
				p, _ = pend.Put(p, put(0, "k"+strconv.Itoa(len(p.List)), ""))
			}
			x, n, e := pend.Save(p)
			marks = append(marks, at*each+each)
			if n != at || e != api.OK || !slices.Equal(x.Marks, marks) || !slices.Equal(x.List, p.List) {
				t.Fatalf("by %d, %d: %v, %d, %v", each, at, x, n, e)
			}
			p = x
		}
		if x, n, e := pend.Save(p); !isZero(x) || n != 0 || e != api.ErrLimit {
			t.Errorf("by %d: %v, %d, %v", each, x, n, e)
		}
		less, _ := pend.Release(p, api.MaxMarks-1)
		if x, n, e := pend.Save(less); !equal(x, p) || n != api.MaxMarks-1 || e != api.OK {
			t.Errorf("by %d, behind Release: %v, %d, %v", each, x, n, e)
		}
	}
}

func TestReturnAndRelease(t *testing.T) {
	p := some()
	for i, c := range []struct {
		n             int
		writes        int
		back, release []int
	}{
		{0, 0, []int{0}, nil}, {1, 3, []int{0, 3}, []int{0}}, {2, 3, []int{0, 3, 3}, []int{0, 3}}, {3, 6, []int{0, 3, 3, 6}, []int{0, 3, 3}}, {4, 9, []int{0, 3, 3, 6, 9}, []int{0, 3, 3, 6}},
	} {
		x, e := pend.Return(p, c.n)
		if !equal(x, marked(of(p.List[:c.writes]...), c.back...)) || e != api.OK {
			t.Errorf("%d: Return: %v, %v", i, x, e)
		}
		if again, e := pend.Return(x, c.n); !equal(again, x) || e != api.OK {
			t.Errorf("%d: Return twice: %v, %v", i, again, e)
		}
		y, e := pend.Release(p, c.n)
		if !equal(y, marked(p, c.release...)) || e != api.OK {
			t.Errorf("%d: Release: %v, %v", i, y, e)
		}
		if again, e := pend.Release(y, c.n); !isZero(again) || e != api.ErrMark {
			t.Errorf("%d: Release twice: %v, %v", i, again, e)
		}
		if old, e := pend.Return(y, c.n); !isZero(old) || e != api.ErrMark {
			t.Errorf("%d: Return behind Release: %v, %v", i, old, e)
		}
	}
}

// Of each mark that there is, and of numbers ahead of all and behind all.
func TestReturnAndReleaseEverywhere(t *testing.T) {
	for _, p := range pends() {
		for n := range p.Marks {
			x, e := pend.Return(p, n)
			if !equal(x, marked(of(p.List[:p.Marks[n]]...), p.Marks[:n+1]...)) || e != api.OK || pend.Check(x) != api.OK {
				t.Fatalf("%v: Return %d: %v, %v", p, n, x, e)
			}
			y, e := pend.Release(p, n)
			if !equal(y, marked(p, p.Marks[:n]...)) || e != api.OK || pend.Check(y) != api.OK {
				t.Fatalf("%v: Release %d: %v, %v", p, n, y, e)
			}
		}
		for _, n := range []int{math.MinInt, -1, len(p.Marks), len(p.Marks) + 1, api.MaxMarks, math.MaxInt} {
			x, e := pend.Return(p, n)
			y, f := pend.Release(p, n)
			if !isZero(x) || !isZero(y) || e != api.ErrMark || f != api.ErrMark {
				t.Fatalf("%v, %d: %v, %v, %v, %v", p, n, x, e, y, f)
			}
		}
	}
}

// The example of the chapter.
func TestNothingIsWrittenBehindReturn(t *testing.T) {
	p, n, e := pend.Save(api.Pend{})
	p, f := pend.Put(p, put(0, "a", "v"))
	p, g := pend.Return(p, n)
	l, h := pend.Sum(p)
	if n != 0 || !equal(p, marked(api.Pend{}, 0)) || len(l) > 0 || [4]api.Errno{e, f, g, h} != [4]api.Errno{} {
		t.Errorf("%d, %v, %v: %v, %v, %v, %v", n, p, l, e, f, g, h)
	}
}

// P10.3

// walk is what is pending, and beside it what it should be by copies: of all
// that was written as each mark was made.
type walk struct {
	p     api.Pend
	list  []api.Write
	saved [][]api.Write
}

func (w walk) put(t *testing.T, x api.Write) walk {
	t.Helper()
	p, e := pend.Put(w.p, x)
	if e != api.OK {
		t.Fatalf("%v: Put: %v", w.p, e)
	}
	return walk{p, append(slices.Clone(w.list), x), w.saved}
}

func (w walk) save(t *testing.T) walk {
	t.Helper()
	p, n, e := pend.Save(w.p)
	if n != len(w.saved) || e != api.OK {
		t.Fatalf("%v: Save: %d, %v", w.p, n, e)
	}
	return walk{p, w.list, append(slices.Clone(w.saved), w.list)}
}

func (w walk) back(t *testing.T, n int) walk {
	t.Helper()
	p, e := pend.Return(w.p, n)
	if e != api.OK {
		t.Fatalf("%v: Return %d: %v", w.p, n, e)
	}
	return walk{p, w.saved[n], w.saved[:n+1]}
}

func (w walk) release(t *testing.T, n int) walk {
	t.Helper()
	p, e := pend.Release(w.p, n)
	if e != api.OK {
		t.Fatalf("%v: Release %d: %v", w.p, n, e)
	}
	return walk{p, w.list, w.saved[:n]}
}

// next are all walks that are a step longer.
func (w walk) next(t *testing.T) []walk {
	t.Helper()
	l := []walk{w.put(t, put(1, "b", strconv.Itoa(len(w.list)))), w.put(t, gone(1, "b")), w.put(t, put(0, "c", "")), w.save(t)}
	for n := range w.saved {
		l = append(l, w.back(t, n), w.release(t, n))
	}
	return l
}

func (w walk) holds(t *testing.T) {
	t.Helper()
	if pend.Check(w.p) != api.OK || !slices.Equal(w.p.List, w.list) || len(w.p.Marks) != len(w.saved) {
		t.Fatalf("%v, not %v, %d marks", w.p, w.list, len(w.saved))
	}
	for n, saved := range w.saved {
		old, e := pend.Return(w.p, n)
		was, f := pend.Sum(old)
		if !slices.Equal(old.List, saved) || !slices.Equal(was, sumOf(of(saved...))) || e != api.OK || f != api.OK {
			t.Fatalf("%v: to %d: %v, %v, not %v", w.p, n, old, e, saved)
		}
	}
}

// All walks of up to six steps: wherever one returns to, there is what there was
// as the mark was made.
func TestReturnIsWhatThereWas(t *testing.T) {
	walks := []walk{{}}
	for range 6 {
		var longer []walk
		for _, w := range walks {
			longer = append(longer, w.next(t)...)
		}
		for _, w := range longer {
			w.holds(t)
		}
		walks = longer
	}
}

// Whatever stands behind a mark, Return to it is what Save told.
func TestReturnBehindAll(t *testing.T) {
	for _, p := range pends() {
		saved, n, e := pend.Save(p)
		if e != api.OK {
			continue
		}
		x := saved
		for range api.MaxOps + 1 {
			if old, e := pend.Return(x, n); !equal(old, saved) || e != api.OK {
				t.Fatalf("%v: %v, %v", x, old, e)
			}
			if y, _, e := pend.Save(x); e == api.OK {
				x = y
			}
			y, e := pend.Put(x, gone(len(x.List)%api.MaxTables, "a"))
			if e != api.OK {
				break
			}
			x = y
		}
	}
}

// R2

// roomy is p with spare room behind its lists, and something laid down there.
func roomy(p api.Pend) api.Pend {
	list := append(slices.Clone(p.List), put(-7, "spare", ""), gone(-8, "spare"))
	marks := append(slices.Clone(p.Marks), -7, -8)
	return api.Pend{List: list[:len(p.List)], Marks: marks[:len(p.Marks)]}
}

// laidDown is all that roomy laid down.
func laidDown(p api.Pend) api.Pend {
	return api.Pend{List: slices.Clone(p.List[:len(p.List)+2]), Marks: slices.Clone(p.Marks[:len(p.Marks)+2])}
}

func TestHandedInStaysAsItIs(t *testing.T) {
	for i, p := range slices.Concat(pends(), badPends(), []api.Pend{{}}) {
		given := roomy(p)
		for n := -1; n <= len(p.Marks); n++ {
			ask(t, given, asked{put(0, "a", "v"), 0, "a", n})
			ask(t, given, asked{gone(1, "zz"), 2, "m", n})
			ask(t, given, asked{api.Write{}, -1, "", n})
		}
		if !equal(laidDown(given), laidDown(roomy(p))) {
			t.Fatalf("%d: %v, not %v", i, laidDown(given), p)
		}
	}
}

// scribble writes into what was told, and behind the ends of its lists.
func scribble(p api.Pend) {
	list, marks := p.List[:cap(p.List)], p.Marks[:cap(p.Marks)]
	for at := range list {
		list[at] = put(-1, "written", "written")
	}
	for at := range marks {
		marks[at] = -1
	}
}

// calls are those that tell a list; Sum's is told as one without marks.
func calls(p api.Pend) []func(api.Pend) (api.Pend, api.Errno) {
	l := []func(api.Pend) (api.Pend, api.Errno){
		func(p api.Pend) (api.Pend, api.Errno) { return pend.Put(p, gone(0, "b")) },
		func(p api.Pend) (api.Pend, api.Errno) { x, _, e := pend.Save(p); return x, e },
		func(p api.Pend) (api.Pend, api.Errno) { w, e := pend.Sum(p); return of(w...), e },
	}
	for n := range p.Marks {
		l = append(l,
			func(p api.Pend) (api.Pend, api.Errno) { return pend.Return(p, n) },
			func(p api.Pend) (api.Pend, api.Errno) { return pend.Release(p, n) })
	}
	return l
}

// Whoever writes into what was told changes no other answer and nothing that was
// handed in.
func TestAnswersAreCopies(t *testing.T) {
	for i, p := range append(pends(), api.Pend{}) {
		given := roomy(p)
		for at, call := range calls(p) {
			one, e := call(given)
			two, f := call(given)
			was := copyOf(two)
			scribble(one)
			three, g := call(given)
			if !equal(two, was) || !equal(three, was) || e != f || e != g {
				t.Fatalf("%d, %d: %v, %v, not %v", i, at, two, three, was)
			}
			if !equal(laidDown(given), laidDown(roomy(p))) {
				t.Fatalf("%d, %d: %v, not %v", i, at, laidDown(given), p)
			}
		}
	}
}

// Two that come of one and grow on have nothing in common.
func TestTwoOfOne(t *testing.T) {
	for i, p := range append(pends(), api.Pend{}) {
		if len(p.List) == api.MaxOps || len(p.Marks) == api.MaxMarks {
			continue
		}
		given := roomy(p)
		one, _ := pend.Put(given, put(0, "one", "1"))
		two, _ := pend.Put(given, put(0, "two", "2"))
		saved, n, _ := pend.Save(given)
		other, _, _ := pend.Save(given)
		scribble(other)
		if one.List[len(p.List)].Key != "one" || two.List[len(p.List)].Key != "two" || saved.Marks[n] != len(p.List) || !equal(given, p) {
			t.Fatalf("%d: %v, %v, %v, %v", i, one, two, saved, given)
		}
	}
}

// A list that is nil and one that is empty are one.
func TestNilAndEmptyAreOne(t *testing.T) {
	want := errnos{last: api.ErrNone, back: api.ErrMark, release: api.ErrMark}
	for _, list := range [][]api.Write{nil, {}, make([]api.Write, 0, 3), some().List[:0]} {
		for _, marks := range [][]int{nil, {}, make([]int, 0, 3), some().Marks[:0]} {
			p := api.Pend{List: list, Marks: marks}
			if e := ask(t, p, asked{put(0, "a", "v"), 0, "a", 0}); e != want {
				t.Errorf("%v: %v", p, e)
			}
			if l, e := pend.Sum(p); len(l) > 0 || e != api.OK {
				t.Errorf("%v: %v, %v", p, l, e)
			}
			if x, n, e := pend.Save(p); fmt.Sprint(x, n, e) != "{[] [0]} 0 0" {
				t.Errorf("%v: %v, %d, %v", p, x, n, e)
			}
		}
	}
}
