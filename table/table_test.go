package table_test

import (
	"math"
	"slices"
	"strconv"
	"strings"
	"testing"

	"quorum/api"
	"quorum/chain"
	"quorum/key"
	"quorum/table"
)

func is(commit int, value string) api.Version { return api.Version{Commit: commit, Value: value} }

func gone(commit int) api.Version { return api.Version{Commit: commit, Gone: true} }

func row(k string, l ...api.Version) api.Chain { return api.Chain{Key: k, List: l} }

func of(l ...api.Chain) api.Table { return api.Table{Rows: l} }

func to(low, high string) api.Range { return api.Range{Low: low, High: high} }

func top(low string) api.Range { return api.Range{Low: low, Top: true} }

func long(n int) string { return strings.Repeat("x", n) }

// num is a key: they rise as n does.
func num(n int) string { return "k" + strconv.Itoa(1000+n) }

// some has keys that lie near to each other, versions that are Gone, newest and
// oldest ones too, an empty value, and room between its commits.
func some() api.Table {
	return of(
		row("b", is(20, "b20"), gone(15), is(10, "b10")),
		row("d", gone(18), is(12, "d12"), is(5, "d5")),
		row("d\x00", is(12, "")),
		row("da", gone(7)),
		row("f", is(16, "f16"), gone(3)),
	)
}

// near has the shortest and the longest keys.
func near() api.Table {
	return of(row("\x00", is(1, "0")), row("\x00\x00", is(2, "00")), row("a", is(3, "a")), row(long(api.MaxKey), is(api.MaxNum, long(api.MaxValue)), is(1, "x")), row("\x80", gone(4)), row(strings.Repeat("\xff", api.MaxKey), is(5, "last")))
}

// spread has n versions, at most each of one chain.
func spread(n, each int) api.Table {
	var t api.Table
	for at := 0; at < n; at += each {
		c := row(num(10 * at))
		for i := range min(each, n-at) {
			v := is(api.MaxNum-5*i-at%3, strconv.Itoa(at+i))
			if i%3 == 1 {
				v = gone(v.Commit)
			}
			c.List = append(c.List, v)
		}
		t.Rows = append(t.Rows, c)
	}
	return t
}

// full are tables of n versions: by chains of one, of some and of all.
func full(n int) []api.Table {
	return []api.Table{spread(n, 1), spread(n, 2), spread(n, 5), spread(n, 63), spread(n, 64), spread(n, 65)}
}

// small are all tables of three keys whose chains have commits from 1 to 2, each
// one Gone or not, or none.
func small() []api.Table {
	var all []api.Table
	for code := range 9 * 9 * 9 {
		var t api.Table
		for at, rest := 0, code; at < 3; at, rest = at+1, rest/9 {
			c := row([]string{"a", "aa", "c"}[at])
			for commit, x := 2, rest%9; commit > 0; commit, x = commit-1, x/3 {
				switch x % 3 {
				case 1:
					c.List = append(c.List, is(commit, c.Key+strconv.Itoa(commit)))
				case 2:
					c.List = append(c.List, gone(commit))
				}
			}
			if len(c.List) > 0 {
				t.Rows = append(t.Rows, c)
			}
		}
		all = append(all, t)
	}
	return all
}

// large are a few tables beside those that are small.
func large() []api.Table {
	return slices.Concat([]api.Table{some(), near(), of(row("m", is(7, "m7"))), of(row("m", gone(7)))}, full(api.MaxRooms), full(api.MaxRooms-1))
}

func tables() []api.Table { return append(small(), large()...) }

func badKeys() []string {
	return []string{"", long(api.MaxKey + 1), long(api.MaxKey + 2), long(1 << 16), strings.Repeat("\x00", api.MaxKey+1), strings.Repeat("\xff", api.MaxKey+1)}
}

// badVersions may be in no chain.
func badVersions() []api.Version {
	return []api.Version{{}, {Gone: true}, is(-1, "v"), is(math.MinInt, ""), is(api.MaxNum+1, "v"), gone(api.MaxNum + 1), is(math.MaxInt, ""), is(50, long(api.MaxValue+1)), is(api.MaxNum, long(1<<16)), {Commit: 50, Value: "v", Gone: true}, {Commit: api.MaxNum, Value: "v", Gone: true}}
}

func badChains() []api.Chain {
	l := []api.Chain{{}, row("c"), {Key: "c", List: []api.Version{}}, row("c", is(3, ""), is(3, "")), row("c", is(3, ""), is(4, "")), row("c", gone(3), gone(3)), row("c", is(9, "a"), is(3, "b"), is(5, "c"))}
	for _, k := range badKeys() {
		l = append(l, row(k, is(1, "v")), row(k))
	}
	for _, v := range badVersions() {
		l = append(l, row("c", v), row("c", is(api.MaxNum, ""), v), row("c", v, is(1, "")))
	}
	return l
}

func badTables() []api.Table {
	a, b, c := row("a", is(3, "a")), row("b", gone(4), is(2, "b")), row("c", is(9, ""))
	l := slices.Concat(full(api.MaxRooms+1), full(api.MaxRooms+2), full(3*api.MaxRooms), []api.Table{
		of(b, a), of(a, c, b), of(b, a, c), of(c, b, a), of(row("a\x00", is(1, "")), a), of(row("aa", is(1, "")), a, b), of(row("\xff", is(1, "")), a),
		of(a, a), of(a, row("a", is(4, "other"))), of(a, b, b), of(a, a, b), of(a, b, a), of(row("d", is(1, "")), row("d", gone(1))),
		of(append(spread(api.MaxRooms, 1).Rows, row("z"))...), of(append(spread(api.MaxRooms, 2).Rows, row("z", gone(1)))...), of(append([]api.Chain{row("a", is(1, ""))}, spread(api.MaxRooms, 7).Rows...)...),
	})
	for _, x := range badChains() {
		l = append(l, of(x), of(a, b, x), of(x, row("d", is(1, ""))), of(a, x, row("d", is(1, ""))))
	}
	return l
}

func ranges() []api.Range {
	l := []api.Range{key.All(), top("d"), top("d\x00"), top("zz"), to("", ""), to("d", "d"), to("a\x00", "a\x00"), to("zz", "zz"), to("", strings.Repeat("\xff", api.MaxKey+1)), top(strings.Repeat("\xff", api.MaxKey+1)), to(num(0), num(100)), to(num(15), num(205)), top(num(300))}
	for _, k := range []string{"a", "aa", "b", "c", "d", "d\x00", "da", "f", "\x00", num(10), num(20), long(api.MaxKey), strings.Repeat("\xff", api.MaxKey)} {
		l = append(l, to(k, k+"\x00"), to("", k), top(k), to(k, "zz"))
	}
	return slices.DeleteFunc(l, func(r api.Range) bool { return !r.Top && r.High < r.Low })
}

func badRanges() []api.Range {
	return []api.Range{to("b", "a"), to("a", ""), to("d\x00", "d"), {Low: "a", High: "b", Top: true}, {High: "\x00", Top: true}, top(long(api.MaxKey + 2)), to("", long(api.MaxKey+2)), to(long(api.MaxKey+2), long(api.MaxKey+2)), top(long(1 << 16))}
}

// numbers are at, between, ahead of and behind the commits of t.
func numbers(t api.Table) []int {
	l := []int{math.MinInt, -1, 0, 1, api.MaxNum, api.MaxNum + 1, math.MaxInt}
	for _, c := range t.Rows {
		for _, v := range c.List {
			l = append(l, v.Commit-1, v.Commit, v.Commit+1)
		}
	}
	slices.Sort(l)
	return slices.Compact(l)
}

// keys are those of t, such as lie near to them, and some others.
func keys(t api.Table) []string {
	l := []string{"\x00", "a", "aa", "c", "m", "zz", strings.Repeat("\xff", api.MaxKey)}
	for _, c := range t.Rows {
		l = append(l, c.Key)
		if len(c.Key) < api.MaxKey {
			l = append(l, c.Key+"\x00")
		}
		if len(c.Key) > 1 {
			l = append(l, c.Key[:len(c.Key)-1])
		}
	}
	slices.Sort(l)
	return slices.Compact(l)
}

// The words of the chapters, gone through version by version.

func thereOf(t api.Table, k string, n int) (string, bool) {
	var told api.Version
	for _, c := range t.Rows {
		for _, v := range c.List {
			if c.Key == k && v.Commit <= n && v.Commit > told.Commit {
				told = v
			}
		}
	}
	return told.Value, told.Commit > 0 && !told.Gone
}

func holds(r api.Range, k string) bool {
	if strings.Compare(k, r.Low) < 0 {
		return false
	}
	return r.Top || strings.Compare(k, r.High) < 0
}

func scanOf(t api.Table, r api.Range, n int, many int, back bool) []api.Row {
	var l []api.Row
	for _, c := range t.Rows {
		if v, is := thereOf(t, c.Key, n); is && holds(r, c.Key) {
			l = append(l, api.Row{Key: c.Key, Value: v})
		}
	}
	slices.SortFunc(l, func(a, b api.Row) int {
		if back {
			a, b = b, a
		}
		return strings.Compare(a.Key, b.Key)
	})
	if len(l) > many {
		l = l[:many]
	}
	return l
}

func sizeOf(t api.Table) int {
	n := 0
	for _, c := range t.Rows {
		n += len(c.List)
	}
	return n
}

func newestOf(t api.Table, k string) int {
	n := 0
	for _, c := range t.Rows {
		if c.Key == k {
			n = c.List[0].Commit
		}
	}
	return n
}

func putOf(t api.Table, k string, v api.Version) (api.Table, api.Errno) {
	if v.Commit <= newestOf(t, k) || v.Commit > api.MaxNum {
		return api.Table{}, api.ErrForm
	}
	if sizeOf(t) >= api.MaxRooms {
		return api.Table{}, api.ErrFull
	}
	x, there := copyOf(t), false
	for at, c := range x.Rows {
		if c.Key == k {
			x.Rows[at].List, there = slices.Concat([]api.Version{v}, c.List), true
		}
	}
	if !there {
		x.Rows = append(x.Rows, row(k, v))
	}
	slices.SortFunc(x.Rows, func(a, b api.Chain) int { return strings.Compare(a.Key, b.Key) })
	return x, api.OK
}

func purgeOf(t api.Table, n int) api.Table {
	var x api.Table
	for _, c := range t.Rows {
		var l []api.Version
		kept := false
		for _, v := range c.List {
			if v.Commit > n || !kept && !v.Gone {
				l = append(l, v)
			}
			kept = kept || v.Commit <= n
		}
		if len(l) > 0 {
			x.Rows = append(x.Rows, row(c.Key, l...))
		}
	}
	return x
}

func copyOf(t api.Table) api.Table {
	var x api.Table
	for _, c := range t.Rows {
		x.Rows = append(x.Rows, row(c.Key, slices.Clone(c.List)...))
	}
	return x
}

func equal(a, b api.Table) bool {
	return slices.EqualFunc(a.Rows, b.Rows, func(a, b api.Chain) bool { return a.Key == b.Key && slices.Equal(a.List, b.List) })
}

// Errors

type errnos struct{ check, get, scan, put, purge, count, all api.Errno }

func allForm() errnos {
	return errnos{api.ErrForm, api.ErrForm, api.ErrForm, api.ErrForm, api.ErrForm, api.ErrForm, api.ErrForm}
}

// asked is what all calls are asked with.
type asked struct {
	k    string
	n    int
	r    api.Range
	many int
	v    api.Version
}

// ask calls each one, and holds what is beside an error to be zero.
func ask(t *testing.T, x api.Table, a asked) errnos {
	t.Helper()
	s, get := table.Get(x, a.k, a.n)
	l, scan := table.Scan(x, a.r, a.n, a.many, a.n%2 == 0)
	more, put := table.Put(x, a.k, a.v)
	less, purge := table.Purge(x, a.n)
	num, count := table.Count(x)
	m, all := table.Map(x, a.n)
	if get != api.OK && s != "" || scan != api.OK && len(l) > 0 || put != api.OK && len(more.Rows) > 0 || purge != api.OK && len(less.Rows) > 0 || count != api.OK && num != 0 || all != api.OK && len(m) > 0 {
		t.Fatalf("%v, %v: beside an error: %q, %v, %v, %v, %d, %v", x, a, s, l, more, less, num, m)
	}
	return errnos{table.Check(x), get, scan, put, purge, count, all}
}

func TestTablesThatMayBe(t *testing.T) {
	for i, x := range append(tables(), api.Table{}, of(row("a", is(1, "")), row("a\x00", is(1, ""))), of(row("a", gone(1)), row("b", gone(1)))) {
		if e := table.Check(x); e != api.OK {
			t.Errorf("%d: %v: %v", i, x, e)
		}
	}
}

// R4: ErrForm stands ahead of ErrNone (a key that is not there) and ErrFull.
func TestTablesThatMayNotBe(t *testing.T) {
	for i, x := range badTables() {
		for _, k := range []string{"a", "c", "nowhere", num(0), "", long(api.MaxKey + 1)} {
			for _, n := range []int{math.MinInt, 0, 3, api.MaxNum, math.MaxInt} {
				for _, a := range []asked{{k, n, key.All(), 9, is(api.MaxNum, "v")}, {k, n, to("a", "a"), 0, gone(1)}, {k, n, to("b", "a"), -1, is(0, "")}} {
					if e := ask(t, x, a); e != allForm() {
						t.Errorf("%d, %v: %v", i, a, e)
					}
				}
			}
		}
	}
}

// As many versions as there may be, and one more, in each shape.
func TestSizes(t *testing.T) {
	for each := 1; each <= api.MaxRooms+1; each++ {
		for n := range api.MaxRooms + 1 {
			x := spread(n, each)
			if num, e := table.Count(x); num != n || e != api.OK || table.Check(x) != api.OK {
				t.Errorf("%d versions by %d: %d, %v", n, each, num, e)
			}
		}
		if num, e := table.Count(spread(api.MaxRooms+1, each)); num != 0 || e != api.ErrForm {
			t.Errorf("one too many by %d: %d, %v", each, num, e)
		}
	}
}

// P9.1

func TestGet(t *testing.T) {
	for i, c := range []struct {
		x    api.Table
		k    string
		n    int
		want string
		e    api.Errno
	}{
		{some(), "b", 9, "", api.ErrNone}, {some(), "b", 10, "b10", api.OK}, {some(), "b", 14, "b10", api.OK}, {some(), "b", 15, "", api.ErrNone}, {some(), "b", 19, "", api.ErrNone}, {some(), "b", 20, "b20", api.OK}, {some(), "b", math.MaxInt, "b20", api.OK},
		{some(), "d", 4, "", api.ErrNone}, {some(), "d", 5, "d5", api.OK}, {some(), "d", 17, "d12", api.OK}, {some(), "d", 18, "", api.ErrNone}, {some(), "d\x00", 12, "", api.OK}, {some(), "d\x00", 11, "", api.ErrNone}, {some(), "da", 6, "", api.ErrNone}, {some(), "da", 7, "", api.ErrNone}, {some(), "da", 99, "", api.ErrNone}, {some(), "f", 15, "", api.ErrNone}, {some(), "f", 16, "f16", api.OK},
		{some(), "a", 99, "", api.ErrNone}, {some(), "c", 99, "", api.ErrNone}, {some(), "d\x00\x00", 99, "", api.ErrNone}, {some(), "zz", 99, "", api.ErrNone}, {some(), "b", 0, "", api.ErrNone}, {some(), "b", math.MinInt, "", api.ErrNone},
		{api.Table{}, "a", 9, "", api.ErrNone}, {of(row("m", is(7, "m7"))), "m", 7, "m7", api.OK}, {of(row("m", is(7, "m7"))), "m", 6, "", api.ErrNone}, {near(), long(api.MaxKey), api.MaxNum, long(api.MaxValue), api.OK}, {near(), "\x00", 1, "0", api.OK}, {near(), strings.Repeat("\xff", api.MaxKey), 5, "last", api.OK},
	} {
		if s, e := table.Get(c.x, c.k, c.n); s != c.want || e != c.e {
			t.Errorf("%d: %q, %d: %q, %v", i, c.k, c.n, s, e)
		}
	}
}

func TestGetEverywhere(t *testing.T) {
	for _, x := range tables() {
		for _, k := range keys(x) {
			for _, n := range numbers(x) {
				want, is := thereOf(x, k, n)
				wantE := api.OK
				if !is {
					want, wantE = "", api.ErrNone
				}
				if s, e := table.Get(x, k, n); s != want || e != wantE {
					t.Fatalf("%v, %q, %d: %q, %v, not %q, %v", x, k, n, s, e, want, wantE)
				}
			}
		}
	}
}

// Each length that a text may have: also of what is asked of an empty table.
func TestKeyLengths(t *testing.T) {
	for n := range api.MaxKey + 20 {
		get, put := api.ErrNone, api.OK
		if n < 1 || n > api.MaxKey {
			get, put = api.ErrForm, api.ErrForm
		}
		for _, x := range []api.Table{{}, some(), spread(30, 4)} {
			if _, e := table.Get(x, long(n), 9); e != get {
				t.Errorf("get %d bytes: %v, not %v", n, e, get)
			}
			if _, e := table.Put(x, long(n), is(9, "v")); e != put {
				t.Errorf("put %d bytes: %v, not %v", n, e, put)
			}
		}
	}
}

func TestScan(t *testing.T) {
	at12 := []api.Row{{Key: "b", Value: "b10"}, {Key: "d", Value: "d12"}, {Key: "d\x00", Value: ""}}
	down := []api.Row{at12[2], at12[1], at12[0]}
	for i, c := range []struct {
		r    api.Range
		n    int
		many int
		back bool
		want []api.Row
	}{
		{key.All(), 12, 3, false, at12}, {key.All(), 12, 3, true, down}, {key.All(), 12, 2, false, at12[:2]}, {key.All(), 12, 2, true, down[:2]}, {key.All(), 12, 1, false, at12[:1]}, {key.All(), 12, 1, true, down[:1]}, {key.All(), 12, 0, false, nil}, {key.All(), 12, 0, true, nil}, {key.All(), 12, 4, false, at12}, {key.All(), 12, api.MaxNum, true, down},
		{to("b", "d"), 12, 9, false, at12[:1]}, {to("b", "d\x00"), 12, 9, false, at12[:2]}, {to("b\x00", "zz"), 12, 9, false, at12[1:]}, {to("d", "d\x00"), 12, 9, true, at12[1:2]}, {to("da", "zz"), 12, 9, false, nil}, {to("d", "d"), 12, 9, false, nil}, {to("", "b"), 12, 9, false, nil}, {top("d\x00"), 12, 9, false, at12[2:]}, {top("e"), 12, 9, false, nil},
		{to("b", "d\x00"), 12, 1, true, at12[1:2]}, {to("b", "d\x00"), 12, 1, false, at12[:1]}, {to("d", "zz"), 12, 1, true, at12[2:]},
		{key.All(), 2, 9, false, nil}, {key.All(), 5, 9, false, []api.Row{{Key: "d", Value: "d5"}}}, {key.All(), 20, 9, true, []api.Row{{Key: "f", Value: "f16"}, {Key: "d\x00"}, {Key: "b", Value: "b20"}}}, {key.All(), 16, 1, true, []api.Row{{Key: "f", Value: "f16"}}}, {key.All(), 15, 1, true, []api.Row{{Key: "d\x00"}}}, {key.All(), 15, 1, false, []api.Row{{Key: "d", Value: "d12"}}},
		{key.All(), math.MinInt, 9, false, nil}, {key.All(), 0, 9, false, nil}, {key.All(), -1, 9, true, nil}, {to("b", "c"), math.MaxInt, 9, true, []api.Row{{Key: "b", Value: "b20"}}},
	} {
		if l, e := table.Scan(some(), c.r, c.n, c.many, c.back); !slices.Equal(l, c.want) || e != api.OK {
			t.Errorf("%d: %v, %v", i, l, e)
		}
	}
}

func wantScans(t *testing.T, x api.Table, r api.Range, n int) {
	t.Helper()
	for _, many := range []int{0, 1, 2, 5, api.MaxRooms - 1, api.MaxRooms, api.MaxNum - 1, api.MaxNum} {
		for _, back := range []bool{false, true} {
			want := scanOf(x, r, n, many, back)
			if l, e := table.Scan(x, r, n, many, back); !slices.Equal(l, want) || e != api.OK {
				t.Fatalf("%v, %v, %d, %d, %v: %v, %v, not %v", x, r, n, many, back, l, e, want)
			}
		}
	}
}

func TestScanEverywhere(t *testing.T) {
	for _, x := range small() {
		for _, r := range []api.Range{key.All(), to("a", "a\x00"), to("a", "aa"), to("a", "c"), to("aa", "aa"), to("aa", "c\x00"), to("b", "bb"), top("aa"), top("c\x00"), to("", "aa\x00")} {
			for n := range 4 {
				wantScans(t, x, r, n)
			}
		}
	}
	for _, x := range []api.Table{{}, some(), near(), spread(api.MaxRooms, 1), spread(api.MaxRooms, 3), spread(40, 40)} {
		for _, r := range ranges() {
			for i, n := range numbers(x) {
				if i%7 < 3 {
					wantScans(t, x, r, n)
				}
			}
		}
	}
}

// Also of a table that has nothing, of many that is 0, and where both may not be.
func TestScanOfWhatMayNotBe(t *testing.T) {
	for i, x := range append(large(), api.Table{}) {
		for _, many := range []int{0, 1, api.MaxNum, -1, api.MaxNum + 1} {
			for _, r := range badRanges() {
				if l, e := table.Scan(x, r, 9, many, i%2 == 0); len(l) > 0 || e != api.ErrForm {
					t.Errorf("%d, %d, %d bytes: %v, %v", i, many, len(r.Low), l, e)
				}
			}
		}
		for _, many := range []int{-1, math.MinInt, api.MaxNum + 1, math.MaxInt} {
			for _, r := range ranges() {
				if l, e := table.Scan(x, r, 9, many, i%2 == 0); len(l) > 0 || e != api.ErrForm {
					t.Errorf("%d, %d, %v: %v, %v", i, many, r, l, e)
				}
			}
		}
	}
}

// A new key ahead of all, between and behind all; a key that is there.
func TestPut(t *testing.T) {
	a, b, c := row("b", is(4, "b4"), gone(2)), row("d", gone(6)), row("f", is(1, ""))
	x := of(a, b, c)
	for i, p := range []struct {
		x    api.Table
		k    string
		v    api.Version
		want api.Table
	}{
		{x, "a", is(1, "new"), of(row("a", is(1, "new")), a, b, c)}, {x, "c", is(9, ""), of(a, row("c", is(9, "")), b, c)}, {x, "e", gone(3), of(a, b, row("e", gone(3)), c)}, {x, "g", is(5, long(api.MaxValue)), of(a, b, c, row("g", is(5, long(api.MaxValue))))},
		{x, "b\x00", is(1, ""), of(a, row("b\x00", is(1, "")), b, c)}, {x, "\x00", gone(1), of(row("\x00", gone(1)), a, b, c)}, {x, long(api.MaxKey), is(api.MaxNum, "v"), of(a, b, c, row(long(api.MaxKey), is(api.MaxNum, "v")))}, {x, "\xff", gone(api.MaxNum), of(a, b, c, row("\xff", gone(api.MaxNum)))},
		{x, "b", is(5, "b5"), of(row("b", is(5, "b5"), is(4, "b4"), gone(2)), b, c)}, {x, "b", gone(api.MaxNum), of(row("b", gone(api.MaxNum), is(4, "b4"), gone(2)), b, c)}, {x, "d", is(7, ""), of(a, row("d", is(7, ""), gone(6)), c)}, {x, "d", gone(7), of(a, row("d", gone(7), gone(6)), c)}, {x, "f", is(2, ""), of(a, b, row("f", is(2, ""), is(1, "")))},
		{api.Table{}, "q", is(3, "v"), of(row("q", is(3, "v")))}, {api.Table{}, "q", gone(3), of(row("q", gone(3)))}, {of(a), "b", is(9, "z"), of(row("b", is(9, "z"), is(4, "b4"), gone(2)))},
	} {
		if y, e := table.Put(p.x, p.k, p.v); !equal(y, p.want) || e != api.OK || table.Check(y) != api.OK {
			t.Errorf("%d: %q, %d: %v, %v", i, p.k, p.v.Commit, y, e)
		}
	}
}

func TestPutEverywhere(t *testing.T) {
	for _, x := range tables() {
		for _, k := range keys(x) {
			top := newestOf(x, k)
			for _, n := range []int{math.MinInt, 0, 1, top - 1, top, top + 1, api.MaxNum, api.MaxNum + 1} {
				for _, v := range []api.Version{is(n, ""), is(n, "v"), gone(n)} {
					want, wantE := putOf(x, k, v)
					if v.Commit < 1 {
						want, wantE = api.Table{}, api.ErrForm
					}
					if y, e := table.Put(x, k, v); !equal(y, want) || e != wantE {
						t.Fatalf("%v, %q, %v: %v, %v, not %v, %v", x, k, v, y, e, want, wantE)
					}
				}
			}
		}
	}
}

// The example of the chapter: what was there earlier stays to be seen.
func TestGetBehindPut(t *testing.T) {
	for _, x := range append(small(), some(), near()) {
		for _, k := range keys(x) {
			v := is(newestOf(x, k)+1, "new")
			y, e := table.Put(x, k, v)
			if v.Commit > api.MaxNum {
				continue
			}
			was, wasE := table.Get(x, k, v.Commit-1)
			before, beforeE := table.Get(y, k, v.Commit-1)
			now, nowE := table.Get(y, k, v.Commit)
			if e != api.OK || before != was || beforeE != wasE || now != "new" || nowE != api.OK {
				t.Fatalf("%v, %q: %v, %q, %v, %q, %v", x, k, e, before, beforeE, now, nowE)
			}
		}
	}
	x, e := table.Put(api.Table{}, "k", is(5, "v"))
	if s, f := table.Get(x, "k", 4); s != "" || e != api.OK || f != api.ErrNone {
		t.Errorf("%q, %v, %v", s, e, f)
	}
}

// What may not be is told ahead of whether there is room.
func TestPutErrors(t *testing.T) {
	for i, x := range append(large(), api.Table{}) {
		known := "new"
		if len(x.Rows) > 0 {
			known = x.Rows[len(x.Rows)/2].Key
		}
		for _, v := range badVersions() {
			for _, k := range []string{known, "new", "zz"} {
				if y, e := table.Put(x, k, v); len(y.Rows) > 0 || e != api.ErrForm {
					t.Errorf("%d, %q, %d: %v, %v", i, k, v.Commit, y, e)
				}
			}
		}
		for _, k := range badKeys() {
			if y, e := table.Put(x, k, is(api.MaxNum, "v")); len(y.Rows) > 0 || e != api.ErrForm {
				t.Errorf("%d, %d bytes: %v, %v", i, len(k), y, e)
			}
		}
		for _, c := range x.Rows {
			for _, v := range []api.Version{c.List[0], gone(c.List[0].Commit), is(c.List[0].Commit-1, ""), is(1, "v")} {
				if y, e := table.Put(x, c.Key, v); v.Commit <= c.List[0].Commit && (len(y.Rows) > 0 || e != api.ErrForm) {
					t.Errorf("%d, %q, %v: %v, %v", i, c.Key, v, y, e)
				}
			}
		}
	}
}

func TestNoRoom(t *testing.T) {
	last := row(num(5), is(3, "v"))
	for each := 1; each <= api.MaxRooms; each++ {
		x := of(append([]api.Chain{last}, spread(api.MaxRooms-2, each).Rows[1:]...)...)
		for n := 0; sizeOf(x) < api.MaxRooms; n++ {
			k := []string{num(5), "new", "zz"}[n%3]
			y, e := table.Put(x, k, is(newestOf(x, k)+1, ""))
			if e != api.OK || sizeOf(y) != sizeOf(x)+1 {
				t.Fatalf("%d versions by %d: %v", sizeOf(x), each, e)
			}
			x = y
		}
		for _, k := range []string{num(5), "other", "\x00", "zzz"} {
			for _, v := range []api.Version{is(api.MaxNum, "v"), gone(api.MaxNum)} {
				if y, e := table.Put(x, k, v); len(y.Rows) > 0 || e != api.ErrFull {
					t.Errorf("by %d, %q: %v, %v", each, k, y, e)
				}
			}
		}
	}
}

// Keys come in no order; each answer is held by itself.
func TestGrowing(t *testing.T) {
	var x, want api.Table
	for i := range api.MaxRooms {
		k, v := num(i*37%40), is(i+1, strconv.Itoa(i))
		if i%5 == 2 {
			v = gone(i + 1)
		}
		y, e := table.Put(x, k, v)
		want, _ = putOf(want, k, v)
		if !equal(y, want) || e != api.OK || table.Check(y) != api.OK {
			t.Fatalf("%d: %v, %v", i, y, e)
		}
		x = y
	}
	if _, e := table.Put(x, num(0), is(1000, "")); e != api.ErrFull {
		t.Errorf("%v", e)
	}
	less, _ := table.Purge(x, api.MaxNum)
	if y, e := table.Put(less, num(0), is(1000, "")); e != api.OK || sizeOf(y) != sizeOf(less)+1 {
		t.Errorf("behind Purge: %v, %v", y, e)
	}
}

// P9.2

// A Purge that leaves all, some and none of the chains.
func TestPurge(t *testing.T) {
	b, d, d0, f := row("b", is(20, "b20"), gone(15), is(10, "b10")), row("d", gone(18), is(12, "d12"), is(5, "d5")), row("d\x00", is(12, "")), row("f", is(16, "f16"), gone(3))
	dead := of(row("a", gone(4)), row("b", gone(9), is(8, "b8"), gone(2)), row("c", gone(6), gone(5)))
	for i, c := range []struct {
		x    api.Table
		n    int
		want api.Table
	}{
		{some(), math.MinInt, some()}, {some(), -1, some()}, {some(), 0, some()}, {some(), 2, some()},
		{some(), 3, of(b, d, d0, row("da", gone(7)), row("f", is(16, "f16")))}, {some(), 5, of(b, d, d0, row("da", gone(7)), row("f", is(16, "f16")))}, {some(), 7, of(b, d, d0, row("f", is(16, "f16")))}, {some(), 11, of(b, d, d0, row("f", is(16, "f16")))}, {some(), 12, of(b, row("d", gone(18), is(12, "d12")), d0, row("f", is(16, "f16")))}, {some(), 15, of(row("b", is(20, "b20")), row("d", gone(18), is(12, "d12")), d0, row("f", is(16, "f16")))}, {some(), 18, of(row("b", is(20, "b20")), d0, row("f", is(16, "f16")))}, {some(), math.MaxInt, of(row("b", is(20, "b20")), d0, row("f", is(16, "f16")))},
		{of(f), 2, of(f)}, {dead, 3, of(row("a", gone(4)), row("b", gone(9), is(8, "b8")), row("c", gone(6), gone(5)))}, {dead, 4, of(row("b", gone(9), is(8, "b8")), row("c", gone(6), gone(5)))}, {dead, 6, of(row("b", gone(9), is(8, "b8")))}, {dead, 8, of(row("b", gone(9), is(8, "b8")))}, {dead, 9, api.Table{}}, {dead, api.MaxNum, api.Table{}}, {api.Table{}, 9, api.Table{}}, {of(row("a", gone(4))), 4, api.Table{}},
	} {
		if y, e := table.Purge(c.x, c.n); !equal(y, c.want) || e != api.OK || table.Check(y) != api.OK {
			t.Errorf("%d: %d: %v, %v, not %v", i, c.n, y, e, c.want)
		}
	}
}

// Each chain is what chain.Purge makes of it.
func TestPurgeEverywhere(t *testing.T) {
	for _, x := range tables() {
		for _, n := range numbers(x) {
			want := purgeOf(x, n)
			y, e := table.Purge(x, n)
			if !equal(y, want) || e != api.OK || table.Check(y) != api.OK {
				t.Fatalf("%v, %d: %v, %v, not %v", x, n, y, e, want)
			}
			var l []api.Chain
			for _, c := range x.Rows {
				if z, _ := chain.Purge(c, n); z.Key != "" {
					l = append(l, z)
				}
			}
			if !equal(y, of(l...)) {
				t.Fatalf("%v, %d: %v, not %v", x, n, y, l)
			}
		}
	}
}

func TestCount(t *testing.T) {
	for i, x := range append(tables(), api.Table{}) {
		if n, e := table.Count(x); n != sizeOf(x) || e != api.OK {
			t.Errorf("%d: %d, %v", i, n, e)
		}
	}
	if n, e := table.Count(some()); n != 10 || e != api.OK {
		t.Errorf("%d, %v", n, e)
	}
}

func TestMap(t *testing.T) {
	for _, x := range append(tables(), api.Table{}) {
		for _, n := range numbers(x) {
			want := scanOf(x, key.All(), n, api.MaxNum, false)
			l, e := table.Map(x, n)
			scan, _ := table.Scan(x, key.All(), n, api.MaxNum, false)
			if !slices.Equal(l, want) || !slices.Equal(l, scan) || e != api.OK {
				t.Fatalf("%v, %d: %v, %v, not %v", x, n, l, e, want)
			}
		}
	}
	want := []api.Row{{Key: "d", Value: "d12"}, {Key: "d\x00", Value: ""}, {Key: "f", Value: "f16"}}
	if l, e := table.Map(some(), 17); !slices.Equal(l, want) || e != api.OK {
		t.Errorf("%v, %v", l, e)
	}
	if l, e := table.Map(spread(api.MaxRooms, 1), api.MaxNum); len(l) != api.MaxRooms || e != api.OK {
		t.Errorf("%v, %v", l, e)
	}
}

// P9.3

// Map is the same, and with it Get and Scan.
func TestMapBehindPurge(t *testing.T) {
	for _, x := range append(small(), some(), near(), spread(api.MaxRooms, 4), spread(20, 20)) {
		for _, n := range numbers(x) {
			y, e := table.Purge(x, n)
			if e != api.OK {
				t.Fatalf("%v, %d: %v", x, n, e)
			}
			for _, later := range numbers(x) {
				if later < n {
					continue
				}
				was, wasE := table.Map(x, later)
				if now, nowE := table.Map(y, later); !slices.Equal(now, was) || nowE != wasE {
					t.Fatalf("%v, %d, at %d: %v, %v, not %v, %v", x, n, later, now, nowE, was, wasE)
				}
				for _, c := range x.Rows {
					was, wasE := table.Get(x, c.Key, later)
					if now, nowE := table.Get(y, c.Key, later); now != was || nowE != wasE {
						t.Fatalf("%v, %d, %q at %d: %v, %v, not %v, %v", x, n, c.Key, later, now, nowE, was, wasE)
					}
				}
			}
		}
	}
}

// R2

func mark(commit int) api.Version { return api.Version{Commit: commit, Value: "mark"} }

// roomy is t with marks in the spare room of all its lists.
func roomy(t api.Table) api.Table {
	l := make([]api.Chain, 0, len(t.Rows)+2)
	for _, c := range t.Rows {
		l = append(l, row(c.Key, append(slices.Clone(c.List), mark(-7), mark(-8))[:len(c.List)]...))
	}
	return api.Table{Rows: append(l, row("mark", mark(-1)), row("mark", mark(-2)))[:len(t.Rows)]}
}

// laidDown is all that roomy laid down, as a table.
func laidDown(t api.Table) api.Table {
	l := slices.Clone(t.Rows[:len(t.Rows)+2])
	for at, c := range t.Rows {
		l[at].List = slices.Clone(c.List[:len(c.List)+2])
	}
	return api.Table{Rows: l}
}

func TestHandedInStaysAsItIs(t *testing.T) {
	for i, x := range append(append(tables(), api.Table{}), badTables()...) {
		given := roomy(x)
		for _, k := range []string{"a", "aa", "b", "c", "d", "zz", "\x00", num(0), num(15), "", long(api.MaxKey + 1)} {
			for _, n := range []int{0, 1, 2, 8, 15, api.MaxNum} {
				ask(t, given, asked{k, n, key.All(), 3, is(api.MaxNum, "v")})
				ask(t, given, asked{k, n + 1, to("a", "c"), api.MaxNum, gone(n)})
			}
		}
		if !equal(laidDown(given), laidDown(roomy(x))) {
			t.Errorf("%d: %v", i, given)
		}
	}
}

// scribble writes into a told table, and behind the ends of its lists.
func scribble(x api.Table) {
	for _, c := range x.Rows {
		for at := range c.List[:cap(c.List)] {
			c.List[:cap(c.List)][at] = is(-1, "written")
		}
	}
	for at := range x.Rows[:cap(x.Rows)] {
		x.Rows[:cap(x.Rows)][at] = row("written")
	}
}

// calls are those that tell a table.
func calls() []func(x api.Table) (api.Table, api.Errno) {
	var l []func(x api.Table) (api.Table, api.Errno)
	for _, k := range []string{"\x00", "aa", "b", "d", "e", "zz"} {
		l = append(l, func(x api.Table) (api.Table, api.Errno) { return table.Put(x, k, is(api.MaxNum, "new")) })
	}
	for _, n := range []int{-1, 0, 1, 2, 7, 15, api.MaxNum} {
		l = append(l, func(x api.Table) (api.Table, api.Errno) { return table.Purge(x, n) })
	}
	return l
}

// Whoever writes into what was told changes no other answer and nothing that was
// handed in.
func TestAnswersAreCopies(t *testing.T) {
	for i, x := range append(small(), some(), near(), api.Table{}, spread(api.MaxRooms-1, 5)) {
		given := roomy(x)
		for at, call := range calls() {
			one, e := call(given)
			two, f := call(given)
			was := copyOf(two)
			scribble(one)
			three, g := call(given)
			if !equal(two, was) || !equal(three, was) || e != api.OK || f != api.OK || g != api.OK {
				t.Fatalf("%d, %d: %v, %v, not %v", i, at, two, three, was)
			}
		}
		if !equal(laidDown(given), laidDown(roomy(x))) {
			t.Fatalf("%d: %v, not %v", i, given, x)
		}
	}
}

// No two lists of one answer share memory, spare room too.
func TestListsOfAnAnswer(t *testing.T) {
	for i, x := range append(large(), small()...) {
		for at, call := range calls() {
			y, _ := call(x)
			was := copyOf(y)
			for a, c := range y.Rows {
				y.Rows[a].List = append(c.List, is(-1, "written"))
				for b, d := range y.Rows {
					if want := was.Rows[b].List; !slices.Equal(d.List[:len(want)], want) {
						t.Fatalf("%d, %d: %d is changed by %d", i, at, b, a)
					}
				}
			}
			for a, c := range y.Rows {
				scribble(of(c))
				for b, d := range y.Rows {
					if want := was.Rows[b].List; b > a && !slices.Equal(d.List[:len(want)], want) {
						t.Fatalf("%d, %d: %d is written over by %d", i, at, b, a)
					}
				}
			}
		}
	}
}

func TestRowsAreCopies(t *testing.T) {
	for i, x := range append(large(), small()...) {
		for _, many := range []int{0, 1, 2, api.MaxNum} {
			for _, back := range []bool{false, true} {
				one, _ := table.Scan(x, key.All(), 12, many, back)
				two, _ := table.Scan(x, key.All(), 12, many, back)
				was := slices.Clone(two)
				for at := range one[:cap(one)] {
					one[:cap(one)][at] = api.Row{Key: "written", Value: "written"}
				}
				three, _ := table.Scan(x, key.All(), 12, many, back)
				if !slices.Equal(two, was) || !slices.Equal(three, was) {
					t.Fatalf("%d: %v, %v, not %v", i, two, three, was)
				}
			}
		}
	}
}

// A list that is nil and one that is empty are one: a table without chains may
// be, a chain without versions may not.
func TestNilAndEmptyAreOne(t *testing.T) {
	for _, l := range [][]api.Chain{nil, {}, make([]api.Chain, 0, 3), some().Rows[:0]} {
		want := errnos{get: api.ErrNone}
		if e := ask(t, of(l...), asked{"k", 9, key.All(), 9, is(1, "v")}); e != want {
			t.Errorf("%v: %v", l, e)
		}
		if e := ask(t, api.Table{Rows: l}, asked{"k", 9, key.All(), 9, is(1, "v")}); e != want {
			t.Errorf("%v: %v", l, e)
		}
	}
	for _, l := range [][]api.Version{nil, {}, make([]api.Version, 0, 3), some().Rows[0].List[:0]} {
		if e := ask(t, of(row("a", is(1, "")), api.Chain{Key: "k", List: l}), asked{"a", 9, key.All(), 9, is(2, "v")}); e != allForm() {
			t.Errorf("%v: %v", l, e)
		}
	}
}
