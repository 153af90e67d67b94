package page_test

import (
	"math"
	"slices"
	"strings"
	"testing"

	"quorum/api"
	"quorum/page"
)

// of is a page of these texts, without free slots.
func of(slots ...string) api.Page { return api.Page{Slots: slots} }

// with is page p with these slots in Free.
func with(p api.Page, free ...int) api.Page { return api.Page{Slots: p.Slots, Free: free} }

// some has records in 1, 2, 4 and 6, the one in 2 empty, and free slots.
func some() api.Page { return with(of("", "bb", "", "", "e", "", "ggg"), 0, 3, 5) }

// long is a text of n bytes.
func long(n int) string { return strings.Repeat("x", n) }

// empties is a page of n empty records.
func empties(n int) api.Page { return api.Page{Slots: make([]string, n)} }

func equal(a, b api.Page) bool {
	return slices.Equal(a.Slots, b.Slots) && slices.Equal(a.Free, b.Free)
}

func isZero(p api.Page) bool { return len(p.Slots) == 0 && len(p.Free) == 0 }

// ends are numbers that are no slot of any page.
func ends() []int {
	return []int{-1, math.MinInt, api.MaxSlots, math.MaxInt}
}

func badPages() []api.Page {
	return []api.Page{
		empties(api.MaxSlots + 1), empties(2 * api.MaxSlots), with(empties(api.MaxSlots+1), 0), empties(1 << 20),
		of(long(api.MaxPage - 3)), of("", long(api.MaxPage-7)), of(long(96), long(97)), of(long(1 << 20)),
		with(of("", long(api.MaxPage-7)), 0), {Slots: slices.Repeat([]string{long(9)}, api.MaxSlots)},
		with(of("", "", "", ""), 1, 0), with(of("", "", "", ""), 0, 2, 1), with(of("", "", "", ""), 2, 1, 0), with(of("", "", "", ""), 0, 1, 0),
		with(of("", "b"), 0, 0), with(of("", "", "", ""), 0, 1, 1), with(of("", "", "", ""), 0, 0, 1),
		with(of("a", "b"), 0), with(of("", "b", "c"), 0, 1), with(of("\x00", "b"), 0), with(of("a", "", "c"), 0, 1),
		with(of(""), 0), with(of("a", ""), 1), with(of("", ""), 0, 1), with(of("", "", ""), 0, 2), with(of("a"), 0), with(empties(api.MaxSlots), api.MaxSlots-1),
		with(of(), 0), with(of(), -1), with(of("", "b"), -1), with(of("", "b"), -1, 0), with(of("", "b"), 2), with(of("", "b"), 0, 2),
		with(of("", "b"), math.MinInt), with(of("", "b"), math.MaxInt), with(of("", "b"), 0, math.MaxInt), with(empties(api.MaxSlots), 0, api.MaxSlots),
	}
}

// Errors

type errnos struct{ check, bytes, get, add, set, cut api.Errno }

func allForm() errnos {
	return errnos{api.ErrForm, api.ErrForm, api.ErrForm, api.ErrForm, api.ErrForm, api.ErrForm}
}

// ask calls each one, and holds what is beside an error to be zero.
func ask(t *testing.T, p api.Page, n int, s string) errnos {
	t.Helper()
	count, bytes := page.Bytes(p)
	text, get := page.Get(p, n)
	more, at, add := page.Add(p, s)
	other, set := page.Set(p, n, s)
	less, cut := page.Cut(p, n)
	if bytes != api.OK && count != 0 || get != api.OK && text != "" || add != api.OK && (!isZero(more) || at != 0) ||
		set != api.OK && !isZero(other) || cut != api.OK && !isZero(less) {
		t.Errorf("%#v, %d: beside an error: %d, %#v, %#v, %d, %#v, %#v", p, n, count, text, more, at, other, less)
	}
	return errnos{page.Check(p), bytes, get, add, set, cut}
}

func TestPagesThatMayBe(t *testing.T) {
	for i, p := range []api.Page{
		{}, {Slots: []string{}, Free: []int{}}, some(), of(""), of("a"), of("", ""), of("a", ""), of("\x00\xff"),
		empties(api.MaxSlots - 1), empties(api.MaxSlots), with(empties(api.MaxSlots), 0), with(empties(api.MaxSlots), 0, 1, 2, 3, 4, 5, 6, 7, 8, 9, 10, 11, 12, 13, 14),
		with(empties(api.MaxSlots), api.MaxSlots-2), with(of("", "b"), 0), with(of("", ""), 0), with(of("", "", "", ""), 1), with(of("", "", "", ""), 0, 2),
		of(long(api.MaxPage - 4)), of(long(96), long(96)), of("", long(api.MaxPage-8)), with(of("", long(api.MaxPage-8)), 0), of(long(api.MaxPage-8), ""),
		{Slots: slices.Repeat([]string{long(8)}, api.MaxSlots)},
	} {
		if e := page.Check(p); e != api.OK {
			t.Errorf("%d: %v", i, e)
		}
		if _, e := page.Bytes(p); e != api.OK {
			t.Errorf("%d: %v", i, e)
		}
	}
}

// R4: ErrForm stands ahead of ErrNone (no such slot) and of ErrFull (a text
// that no page has room for).
func TestPagesThatMayNotBe(t *testing.T) {
	for i, p := range badPages() {
		for _, n := range append(ends(), 0, 1, 2) {
			for _, s := range []string{"", "a", long(api.MaxPage), long(1 << 20)} {
				if e := ask(t, p, n, s); e != allForm() {
					t.Errorf("%d, %d, %d bytes: %v", i, n, len(s), e)
				}
			}
		}
	}
}

// R4: ErrNone stands ahead of ErrFull.
func TestNoSuchSlot(t *testing.T) {
	full := with(of("", long(api.MaxPage-8)), 0)
	for i, c := range []struct {
		p    api.Page
		none []int
	}{
		{api.Page{}, []int{0, 1}}, {of(""), []int{1, 2}}, {of("a", ""), []int{2}}, {some(), []int{0, 3, 5, 7, 8}},
		{empties(api.MaxSlots), []int{api.MaxSlots}}, {with(empties(api.MaxSlots), 0, 14), []int{0, 14}}, {full, []int{0, 2}},
	} {
		for _, n := range append(c.none, ends()...) {
			for _, s := range []string{"", "a", long(api.MaxPage - 3), long(1 << 20)} {
				e := ask(t, c.p, n, s)
				e.add = api.OK
				if e != (errnos{get: api.ErrNone, set: api.ErrNone, cut: api.ErrNone}) {
					t.Errorf("%d, %d, %d bytes: %v", i, n, len(s), e)
				}
			}
		}
	}
}

// P5.1

func TestBytes(t *testing.T) {
	for i, c := range []struct {
		p    api.Page
		want int
	}{
		{api.Page{}, 0}, {of(""), 4}, {of("a"), 5}, {of("", ""), 8}, {of("a", "bcd"), 12}, {some(), 34}, {of("\u00e9"), 6},
		{with(of("", "b"), 0), 9}, {empties(api.MaxSlots), 4 * api.MaxSlots}, {of(long(api.MaxPage - 4)), api.MaxPage}, {with(of("", long(api.MaxPage-8)), 0), api.MaxPage},
	} {
		if n, e := page.Bytes(c.p); n != c.want || e != api.OK {
			t.Errorf("%d: %d, %v", i, n, e)
		}
	}
}

func TestGet(t *testing.T) {
	for n, want := range map[int]string{1: "bb", 2: "", 4: "e", 6: "ggg"} {
		if s, e := page.Get(some(), n); s != want || e != api.OK {
			t.Errorf("%d: %#v, %v", n, s, e)
		}
	}
	for n := range api.MaxSlots {
		if s, e := page.Get(empties(api.MaxSlots), n); s != "" || e != api.OK {
			t.Errorf("%d: %#v, %v", n, s, e)
		}
	}
	if s, e := page.Get(of(long(api.MaxPage-4)), 0); s != long(api.MaxPage-4) || e != api.OK {
		t.Errorf("%d bytes, %v", len(s), e)
	}
}

func TestAdd(t *testing.T) {
	for i, c := range []struct {
		p    api.Page
		s    string
		want api.Page
		n    int
	}{
		{api.Page{}, "a", of("a"), 0}, {api.Page{}, "", of(""), 0}, {of(""), "", of("", ""), 1}, {of("a", "b"), "c", of("a", "b", "c"), 2},
		{some(), "new", with(of("new", "bb", "", "", "e", "", "ggg"), 3, 5), 0}, {some(), "", with(some(), 3, 5), 0},
		{with(of("a", "", "", "d"), 1, 2), "z", with(of("a", "z", "", "d"), 2), 1},
		{with(of("a", "", "", "d"), 2), "z", of("a", "", "z", "d"), 2},
		{with(of("", "\x00"), 0), "\xff\x00", of("\xff\x00", "\x00"), 0},
		{api.Page{}, long(api.MaxPage - 4), of(long(api.MaxPage - 4)), 0},
	} {
		x, n, e := page.Add(c.p, c.s)
		if !equal(x, c.want) || n != c.n || e != api.OK {
			t.Errorf("%d: %#v, %d, %v", i, x, n, e)
		}
	}
}

// A free slot has its bytes already; one more needs them.
func TestAddUpToTheBytes(t *testing.T) {
	for i, c := range []struct {
		p    api.Page
		room int
	}{
		{api.Page{}, 196}, {of(""), 192}, {of("aaa"), 189}, {of(long(100)), 92}, {of(long(192)), 0}, {some(), 166},
		{with(of("", "b"), 0), 191}, {with(of("", long(191)), 0), 1}, {with(of("", long(192)), 0), 0}, {with(empties(api.MaxSlots), 3), 136}, {empties(api.MaxSlots - 1), 136},
	} {
		for _, less := range []int{0, 1} {
			if c.room < less {
				continue
			}
			x, n, e := page.Add(c.p, long(c.room-less))
			count, f := page.Bytes(x)
			if e != api.OK || f != api.OK || count != api.MaxPage-less || x.Slots[n] != long(c.room-less) {
				t.Errorf("%d: %d, %v, %d, %v", i, n, e, count, f)
			}
		}
		for _, more := range []int{1, 2, 4, 5, 1 << 20} {
			if x, n, e := page.Add(c.p, long(c.room+more)); !isZero(x) || n != 0 || e != api.ErrFull {
				t.Errorf("%d, %d more: %#v, %d, %v", i, more, x, n, e)
			}
		}
	}
	for _, room := range []int{193, 194, 195, 196} {
		if x, n, e := page.Add(of(long(room)), ""); !isZero(x) || n != 0 || e != api.ErrFull {
			t.Errorf("%d: %#v, %d, %v", room, x, n, e)
		}
	}
}

func TestAddUpToTheSlots(t *testing.T) {
	var p api.Page
	for i := range api.MaxSlots {
		x, n, e := page.Add(p, "")
		if len(x.Slots) != i+1 || len(x.Free) != 0 || n != i || e != api.OK || page.Check(x) != api.OK {
			t.Fatalf("%d: %#v, %d, %v", i, x, n, e)
		}
		p = x
	}
	for _, s := range []string{"", "a", long(api.MaxPage)} {
		if x, n, e := page.Add(p, s); !isZero(x) || n != 0 || e != api.ErrFull {
			t.Errorf("one more: %#v, %d, %v", x, n, e)
		}
	}
	for free := range api.MaxSlots - 1 {
		x, n, e := page.Add(with(p, free), "q")
		if len(x.Slots) != api.MaxSlots || len(x.Free) != 0 || x.Slots[free] != "q" || n != free || e != api.OK {
			t.Errorf("%d: %#v, %d, %v", free, x, n, e)
		}
	}
}

func TestSet(t *testing.T) {
	for i, c := range []struct {
		n    int
		s    string
		want api.Page
	}{
		{1, "", with(of("", "", "", "", "e", "", "ggg"), 0, 3, 5)}, {1, "bb", some()}, {2, "ccc", with(of("", "bb", "ccc", "", "e", "", "ggg"), 0, 3, 5)},
		{2, "", some()}, {4, "\x00", with(of("", "bb", "", "", "\x00", "", "ggg"), 0, 3, 5)}, {6, "", with(of("", "bb", "", "", "e", "", ""), 0, 3, 5)},
	} {
		x, e := page.Set(some(), c.n, c.s)
		if !equal(x, c.want) || e != api.OK || page.Check(x) != api.OK {
			t.Errorf("%d: %#v, %v", i, x, e)
		}
	}
}

func TestSetUpToTheBytes(t *testing.T) {
	for i, c := range []struct {
		p       api.Page
		n, room int
	}{
		{of(""), 0, 196}, {of(long(196)), 0, 196}, {of("aaa", "b"), 0, 191}, {of("aaa", "b"), 1, 189}, {some(), 1, 168}, {some(), 2, 166}, {some(), 6, 169},
		{empties(api.MaxSlots), 15, 136}, {empties(api.MaxSlots), 0, 136}, {with(of("", long(192)), 0), 1, 192}, {of(long(192), ""), 1, 0}, {of(long(100), long(92)), 0, 100},
	} {
		x, e := page.Set(c.p, c.n, long(c.room))
		count, f := page.Bytes(x)
		if e != api.OK || f != api.OK || count != api.MaxPage || x.Slots[c.n] != long(c.room) || !slices.Equal(x.Free, c.p.Free) {
			t.Errorf("%d: %v, %d, %v", i, e, count, f)
		}
		for _, more := range []int{1, 4, 5, 1 << 20} {
			if x, e := page.Set(c.p, c.n, long(c.room+more)); !isZero(x) || e != api.ErrFull {
				t.Errorf("%d, %d more: %#v, %v", i, more, x, e)
			}
		}
	}
}

func TestCut(t *testing.T) {
	for i, c := range []struct {
		p    api.Page
		n    int
		want api.Page
	}{
		{of("a"), 0, api.Page{}}, {of(""), 0, api.Page{}}, {of("a", "b"), 0, with(of("", "b"), 0)}, {of("a", "b"), 1, of("a")}, {of("", ""), 0, with(of("", ""), 0)}, {of("", ""), 1, of("")},
		{some(), 1, with(of("", "", "", "", "e", "", "ggg"), 0, 1, 3, 5)}, {some(), 2, with(some(), 0, 2, 3, 5)}, {some(), 4, with(of("", "bb", "", "", "", "", "ggg"), 0, 3, 4, 5)},
		{some(), 6, with(of("", "bb", "", "", "e"), 0, 3)},
		{with(of("", "b"), 0), 1, api.Page{}}, {with(of("", "", "", "d"), 0, 1, 2), 3, api.Page{}}, {with(of("", "", "", "d"), 0, 2), 3, with(of("", ""), 0)}, {with(of("", "", "", "d"), 1, 2), 3, of("")},
		{with(of("", "", "", "d"), 0, 2), 1, with(of("", "", "", "d"), 0, 1, 2)}, {with(of("a", "", "c", "d"), 1), 3, with(of("a", "", "c"), 1)},
		{with(empties(api.MaxSlots), 0, 1, 2, 3, 4, 5, 6, 7, 8, 9, 10, 11, 12, 13, 14), api.MaxSlots - 1, api.Page{}},
		{empties(api.MaxSlots), api.MaxSlots - 1, empties(api.MaxSlots - 1)}, {of(long(196)), 0, api.Page{}}, {of(long(96), long(96)), 0, with(of("", long(96)), 0)},
	} {
		x, e := page.Cut(c.p, c.n)
		if !equal(x, c.want) || e != api.OK || page.Check(x) != api.OK {
			t.Errorf("%d: %#v, %v", i, x, e)
		}
		if _, e := page.Get(x, c.n); e != api.ErrNone {
			t.Errorf("%d: it is there still: %v", i, e)
		}
	}
}

// The example of the chapter.
func TestAddAndCut(t *testing.T) {
	for _, s := range []string{"", "a", long(api.MaxPage - 4)} {
		p, n, e := page.Add(api.Page{}, s)
		x, f := page.Cut(p, n)
		if !isZero(x) || n != 0 || e != api.OK || f != api.OK {
			t.Errorf("%#v, %d, %v, %v", x, n, e, f)
		}
	}
}

// P5.2

// check holds page p to have just the records of want, by their slots, and no
// free slot at its end.
func check(t *testing.T, p api.Page, want map[int]string) {
	t.Helper()
	top, bytes := 0, 0
	for n, s := range want {
		top, bytes = max(top, n+1), bytes+len(s)
	}
	bytes += 4 * top
	count, e := page.Bytes(p)
	if page.Check(p) != api.OK || len(p.Slots) != top || len(p.Free) != top-len(want) || count != bytes || e != api.OK {
		t.Fatalf("%#v, not %#v: %d bytes, not %d, %v", p, want, count, bytes, e)
	}
	for n := -1; n <= api.MaxSlots; n++ {
		s, e := page.Get(p, n)
		if _, is := want[n]; is != (e == api.OK) || !is && e != api.ErrNone || s != want[n] {
			t.Fatalf("%#v, %d: %#v, %v, not %#v", p, n, s, e, want[n])
		}
	}
}

// least is the least slot that has no record.
func least(records map[int]string) int {
	for n := 0; ; n++ {
		if _, is := records[n]; !is {
			return n
		}
	}
}

// room tells whether a page of these records may be.
func room(records map[int]string) bool {
	top, bytes := 0, 0
	for n, s := range records {
		top, bytes = max(top, n+1), bytes+len(s)
	}
	return top <= api.MaxSlots && bytes+4*top <= api.MaxPage
}

// changed is a copy of records with s in slot n.
func changed(records map[int]string, n int, s string) map[int]string {
	x := map[int]string{n: s}
	for k, text := range records {
		if k != n {
			x[k] = text
		}
	}
	return x
}

// A walk by numbers that are the same in each run: records come, change and go,
// held against a plain map of them; the others stay in their slots.
func TestOthersStay(t *testing.T) {
	seed := uint32(1)
	next := func(below int) int {
		seed = seed*1664525 + 1013904223
		return int(seed>>16) % below
	}
	told := map[string]int{}
	for round := range 60 {
		var p api.Page
		records := map[int]string{}
		for range 150 {
			n, s := next(api.MaxSlots+2)-1, strings.Repeat(string(rune('a'+next(26))), next(1+round))
			_, is := records[n]
			var x api.Page
			var e, want api.Errno
			then := records
			what := []string{"add", "set", "cut"}[next(3)]
			switch what {
			case "add":
				var at int
				x, at, e = page.Add(p, s)
				then = changed(records, least(records), s)
				if !room(then) {
					want = api.ErrFull
				} else if at != least(records) {
					t.Fatalf("%#v, %#v: %d", p, s, at)
				}
			case "set":
				x, e = page.Set(p, n, s)
				then = changed(records, n, s)
				if !is {
					want = api.ErrNone
				} else if !room(then) {
					want = api.ErrFull
				}
			case "cut":
				x, e = page.Cut(p, n)
				then = changed(records, n, "")
				delete(then, n)
				if !is {
					want = api.ErrNone
				}
			}
			if e != want || e != api.OK && !isZero(x) {
				t.Fatalf("%#v, %s %d, %#v: %#v, %v, not %v", p, what, n, s, x, e, want)
			}
			told[what+[]string{"", "", "", " none", "", " full"}[e]]++
			check(t, p, records)
			if e == api.OK {
				p, records = x, then
				check(t, p, records)
			}
		}
	}
	for _, what := range []string{"add", "add full", "set", "set none", "set full", "cut", "cut none"} {
		if told[what] < 50 {
			t.Errorf("the walk is not one of all: %v", told)
		}
	}
}

// every shows all small pages: of at most 3 slots with the texts "" and "a",
// and each list of at most 3 numbers from -1 to 3 as Free.
func every(show func(p api.Page)) {
	for size := range 4 {
		for set := range 1 << size {
			p := empties(size)
			for n := range size {
				p.Slots[n] = []string{"", "a"}[set>>n&1]
			}
			show(p)
			for a := -1; a <= 3; a++ {
				show(with(p, a))
				for b := -1; b <= 3; b++ {
					show(with(p, a, b))
					for c := -1; c <= 3; c++ {
						show(with(p, a, b, c))
					}
				}
			}
		}
	}
}

// mayBe by the words of the chapter, one behind the other.
func mayBe(p api.Page) bool {
	for i, n := range p.Free {
		if !slices.Contains([]int{0, 1, 2}[:len(p.Slots)], n) || p.Slots[n] != "" || n+1 == len(p.Slots) {
			return false
		}
		for _, other := range p.Free[:i] {
			if other >= n {
				return false
			}
		}
	}
	return true
}

func TestEverySmallPage(t *testing.T) {
	good := 0
	every(func(p api.Page) {
		if !mayBe(p) {
			if e := ask(t, p, 0, "z"); e != allForm() {
				t.Errorf("%#v: %v", p, e)
			}
			return
		}
		good++
		records := map[int]string{}
		for n, s := range p.Slots {
			if !slices.Contains(p.Free, n) {
				records[n] = s
			}
		}
		check(t, p, records)
		x, n, e := page.Add(p, "z")
		if n != least(records) || e != api.OK {
			t.Errorf("%#v: %d, %v", p, n, e)
		}
		check(t, x, changed(records, n, "z"))
		for n := range records {
			x, e := page.Set(p, n, "z")
			y, f := page.Cut(p, n)
			if e != api.OK || f != api.OK {
				t.Errorf("%#v, %d: %v, %v", p, n, e, f)
			}
			check(t, x, changed(records, n, "z"))
			then := changed(records, n, "")
			delete(then, n)
			check(t, y, then)
		}
	})
	if good != 1+2+(4+2)+(8+4+4+2) {
		t.Errorf("%d pages may be", good)
	}
}

// R2

// roomy is some with spare room behind both ends, with a mark in it.
func roomy() api.Page {
	p := some()
	return api.Page{Slots: append(p.Slots, "mark", "mark")[:len(p.Slots)], Free: append(p.Free, 77, 77)[:len(p.Free)]}
}

func isRoomy(p api.Page) bool {
	slots, free := p.Slots[:len(p.Slots)+2], p.Free[:len(p.Free)+2]
	return equal(p, some()) && slots[len(p.Slots)] == "mark" && slots[len(p.Slots)+1] == "mark" && free[len(p.Free)] == 77 && free[len(p.Free)+1] == 77
}

// calls are all that tell a page, of p and of parts of it.
func calls(p api.Page) []func() (api.Page, api.Errno) {
	add := func(p api.Page, s string) func() (api.Page, api.Errno) {
		return func() (api.Page, api.Errno) {
			x, _, e := page.Add(p, s)
			return x, e
		}
	}
	noFree := with(p, p.Free[:0]...)
	return []func() (api.Page, api.Errno){
		add(p, "z"), add(noFree, "z"), add(api.Page{Slots: p.Slots[:0], Free: p.Free[:0]}, "z"), add(api.Page{Slots: p.Slots, Free: p.Free[:1]}, "z"),
		func() (api.Page, api.Errno) { return page.Set(p, 2, "z") },
		func() (api.Page, api.Errno) { return page.Set(p, 1, "bb") },
		func() (api.Page, api.Errno) { return page.Set(noFree, 0, "z") },
		func() (api.Page, api.Errno) { return page.Cut(p, 4) },
		func() (api.Page, api.Errno) { return page.Cut(p, 6) },
		func() (api.Page, api.Errno) { return page.Cut(noFree, 6) },
		func() (api.Page, api.Errno) { return page.Cut(noFree, 1) },
	}
}

func TestHandedInStaysAsItIs(t *testing.T) {
	p := roomy()
	page.Check(p)
	page.Bytes(p)
	page.Get(p, 4)
	for _, call := range calls(p) {
		call()
	}
	page.Add(p, long(api.MaxPage))
	page.Set(p, 1, long(api.MaxPage))
	page.Cut(p, 0)
	if !isRoomy(p) {
		t.Errorf("%#v", p)
	}
}

func TestAnswersAreCopies(t *testing.T) {
	p := roomy()
	for i, call := range calls(p) {
		first, e := call()
		again, _ := call()
		was := api.Page{Slots: slices.Clone(again.Slots), Free: slices.Clone(again.Free)}
		slots, free := first.Slots[:cap(first.Slots)], first.Free[:cap(first.Free)]
		for k := range slots {
			slots[k] = "written"
		}
		for k := range free {
			free[k] = 88
		}
		if e != api.OK || !equal(again, was) || !isRoomy(p) {
			t.Errorf("%d: %#v, %#v, %v", i, again, p, e)
		}
	}
}

func TestNilAndEmptyAreOne(t *testing.T) {
	for _, p := range []api.Page{{}, {Slots: []string{}}, {Free: []int{}}, {Slots: []string{}, Free: []int{}}} {
		if e := ask(t, p, 0, "a"); e != (errnos{get: api.ErrNone, set: api.ErrNone, cut: api.ErrNone}) {
			t.Errorf("%v", e)
		}
		if x, n, e := page.Add(p, "a"); !equal(x, of("a")) || n != 0 || e != api.OK {
			t.Errorf("%#v, %d, %v", x, n, e)
		}
	}
}
