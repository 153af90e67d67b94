package view_test

import (
	"math"
	"slices"
	"strconv"
	"strings"
	"testing"

	"quorum/api"
	"quorum/key"
	"quorum/pend"
	"quorum/table"
	"quorum/view"
)

func is(commit int, value string) api.Version { return api.Version{Commit: commit, Value: value} }

func gone(commit int) api.Version { return api.Version{Commit: commit, Gone: true} }

func row(k string, l ...api.Version) api.Chain { return api.Chain{Key: k, List: l} }

func of(l ...api.Chain) api.Table { return api.Table{Rows: l} }

func put(table int, k, v string) api.Write { return api.Write{Table: table, Key: k, Value: v} }

func cut(table int, k string) api.Write { return api.Write{Table: table, Key: k, Gone: true} }

func own(l ...api.Write) api.Pend { return api.Pend{List: l} }

func to(low, high string) api.Range { return api.Range{Low: low, High: high} }

func top(low string) api.Range { return api.Range{Low: low, Top: true} }

func long(n int) string { return strings.Repeat("x", n) }

// num is a key: they rise as n does.
func num(n int) string { return "k" + strconv.Itoa(1000+n) }

// some are as many tables as may be: one with versions that are Gone, newest and
// oldest ones too, an empty value and room between its commits, one without
// rows, and one that has keys of the first one.
func some() []api.Table {
	return []api.Table{
		of(row("b", is(20, "b20"), gone(15), is(10, "b10")), row("d", gone(18), is(12, "d12")), row("d\x00", is(12, "")), row("f", is(16, "f16"), gone(3)), row("h", gone(7))),
		{},
		of(row("b", is(9, "other")), row("\xff", is(api.MaxNum, "last"), is(1, "first"))),
	}
}

// mine has writes of keys that are committed, that are not and that are Gone
// there, ahead of all rows, between and behind all, keys that were written
// twice and in two tables, and marks.
func mine() api.Pend {
	return api.Pend{List: []api.Write{
		put(0, "b", "old"), cut(0, "f"), put(0, "h", "again"), put(2, "b", "two"), put(0, "a", "ahead"),
		cut(0, "b"), put(1, "b", ""), put(0, "z", "behind"), put(0, "e", "between"), cut(0, "e0"), cut(2, "b"), put(0, "b", "own"),
	}, Marks: []int{0, 3, 3, 12}}
}

// spread has n versions, at most each of one chain; their commits are from 100
// down.
func spread(n, each int) api.Table {
	var t api.Table
	for at := 0; at < n; at += each {
		c := row(num(10 * at))
		for i := range min(each, n-at) {
			v := is(100-i, strconv.Itoa(at+i))
			if i%3 == 1 {
				v = gone(v.Commit)
			}
			c.List = append(c.List, v)
		}
		t.Rows = append(t.Rows, c)
	}
	return t
}

// small are all tables of two keys whose chains have commits from 1 to 2, each
// one Gone or not, or none.
func small() []api.Table {
	var all []api.Table
	for code := range 9 * 9 {
		var t api.Table
		for at, rest := 0, code; at < 2; at, rest = at+1, rest/9 {
			c := row([]string{"b", "d"}[at])
			for commit, x := 2, rest%9; commit > 0; commit, x = commit-1, x/3 {
				switch x % 3 {
				case 1:
					c.List = append(c.List, is(commit, c.Key+strconv.Itoa(commit)))
				case 2:
					c.List = append(c.List, gone(commit))
				}
			}
			if len(c.List) > 0 {
				t.Rows = append(t.Rows, c)
			}
		}
		all = append(all, t)
	}
	return all
}

// owns are all lists of up to two of these writes, and a few that are longer.
func owns() []api.Pend {
	writes := []api.Write{put(0, "b", "x"), cut(0, "b"), put(0, "a", ""), cut(0, "c"), put(0, "d", "y"), cut(0, "d"), put(0, "e", "z"), put(1, "b", "o"), cut(1, "d")}
	all := []api.Pend{{}, {Marks: []int{0, 0}}, own(put(0, "b", "1"), put(1, "b", "2"), put(0, "a", "3"), cut(0, "b"), put(0, "d", "5"), put(0, "b", "6"), cut(0, "a"))}
	for _, w := range writes {
		all = append(all, own(w))
		for _, x := range writes {
			all = append(all, own(w, x))
		}
	}
	return all
}

// given is what a call is handed in beside what it asks for.
type given struct {
	l []api.Table
	p api.Pend
}

func smalls() []given {
	var all []given
	for _, t := range small() {
		for _, p := range owns() {
			all = append(all, given{[]api.Table{t, of(row("b", is(2, "2"), is(1, "1")), row("d", is(1, "d")))}, p})
		}
	}
	return all
}

// large are a few beside those that are small: no table, one, several, as many
// as may be, without own writes and with as many as may be, near to full.
func large() []given {
	var many []api.Write
	for i := range api.MaxOps {
		many = append(many, put(0, num(7*i), strconv.Itoa(i)))
	}
	far := own(put(0, "\x00", ""), put(0, long(api.MaxKey), long(api.MaxValue)), cut(0, strings.Repeat("\xff", api.MaxKey)), put(api.MaxTables-1, "\xff", "v"))
	all := []given{{}, {nil, api.Pend{Marks: []int{0}}}, {some(), api.Pend{}}, {some(), mine()}, {some(), far}, {some(), own(many...)}, {some()[:1], mine()}, {some()[:2], far}, {make([]api.Table, api.MaxTables), mine()}, {make([]api.Table, 1), own(put(0, "k", "v"), cut(0, "l"))}, {[]api.Table{of(row("m", gone(5)))}, own(cut(0, "m"))}}
	for _, each := range []int{1, 3, api.MaxRooms} {
		for _, n := range []int{api.MaxRooms, api.MaxRooms - 1, api.MaxRooms - api.MaxOps} {
			l := []api.Table{spread(n, each), spread(5, 2)}
			all = append(all, given{l, api.Pend{}}, given{l, own(many...)}, given{l, own(cut(0, num(0)))}, given{l, own(put(0, num(0), "v"), put(1, "a", ""))}, given{l, own(put(1, "a", "v"), cut(1, num(20)))})
		}
	}
	return all
}

func all() []given { return append(smalls(), large()...) }

func badKeys() []string {
	return []string{"", long(api.MaxKey + 1), long(1 << 16), strings.Repeat("\x00", api.MaxKey+1)}
}

func badRanges() []api.Range {
	return []api.Range{to("b", "a"), to("a", ""), to("d\x00", "d"), {Low: "a", High: "b", Top: true}, {High: "\x00", Top: true}, top(long(api.MaxKey + 2)), to("", long(api.MaxKey+2)), top(long(1 << 16))}
}

func badCounts() []int {
	return []int{-1, -2, math.MinInt, api.MaxNum + 1, api.MaxNum + 2, math.MaxInt}
}

// noTables are numbers that no table of l has.
func noTables(l []api.Table) []int {
	return []int{-1, -2, math.MinInt, len(l), len(l) + 1, api.MaxTables, api.MaxTables + 1, math.MaxInt}
}

// badTables may not be: by one of them, or since they are too many.
func badTables() [][]api.Table {
	l := [][]api.Table{make([]api.Table, api.MaxTables+1), append(some(), api.Table{}), append(some(), some()...)}
	for _, x := range []api.Table{
		of(row("b")), of(row("b", is(2, ""), is(2, ""))), of(row("b", is(1, ""), is(2, ""))), of(row("b", is(0, "v"))), of(row("b", is(api.MaxNum+1, "v"))), of(row("b", is(3, long(api.MaxValue+1)))), of(row("b", api.Version{Commit: 3, Value: "v", Gone: true})),
		of(row("", is(1, "v"))), of(row(long(api.MaxKey+1), is(1, "v"))), of(row("b", is(1, "")), row("a", is(1, ""))), of(row("b", is(1, "")), row("b", is(2, ""))), spread(api.MaxRooms+1, 1), spread(api.MaxRooms+1, 5),
	} {
		l = append(l, []api.Table{x}, []api.Table{x, {}}, []api.Table{{}, x}, []api.Table{some()[0], {}, x})
	}
	return l
}

// badPends may not be pending.
func badPends() []api.Pend {
	l := []api.Pend{own(slices.Repeat([]api.Write{put(0, "k", "v")}, api.MaxOps+1)...), {Marks: []int{1}}, {Marks: []int{-1}}, {List: mine().List, Marks: []int{3, 2}}, {List: mine().List, Marks: make([]int, api.MaxMarks+1)}}
	for _, w := range []api.Write{{}, put(-1, "k", "v"), put(api.MaxTables, "k", "v"), put(math.MaxInt, "k", ""), cut(math.MinInt, "k"), put(0, "", "v"), cut(0, long(api.MaxKey+1)), put(1, "k", long(api.MaxValue+1)), {Key: "k", Value: "v", Gone: true}} {
		l = append(l, own(w), own(put(0, "a", "v"), w), own(w, put(0, "a", "v")))
	}
	return l
}

func ranges() []api.Range {
	return []api.Range{key.All(), to("b", "b\x00"), to("a", "d"), top("c"), to("", ""), to("d", "d")}
}

func moreRanges() []api.Range {
	l := append(ranges(), top("zz"), to("zz", "zz"), to("", strings.Repeat("\xff", api.MaxKey+1)), top(strings.Repeat("\xff", api.MaxKey+1)), to("c", "c\x00"), to(num(7), num(50)), top(num(300)))
	for _, k := range []string{"a", "b", "d\x00", "e", "h", "z", num(0), num(7), "\xff", long(api.MaxKey)} {
		l = append(l, to(k, k+"\x00"), to("", k), top(k))
	}
	return l
}

// commits are at, between, ahead of and behind the commits of l.
func commits(l []api.Table) []int {
	all := []int{math.MinInt, -1, 0, 1, api.MaxNum, api.MaxNum + 1, math.MaxInt}
	for _, t := range l {
		for _, c := range t.Rows {
			for _, v := range c.List {
				all = append(all, v.Commit-1, v.Commit, v.Commit+1)
			}
		}
	}
	slices.Sort(all)
	return slices.Compact(all)
}

// keys are those that are committed or written in any table, and some others.
func keys(g given) []string {
	all := []string{"\x00", "a", "b", "c", "zz", strings.Repeat("\xff", api.MaxKey)}
	for _, t := range g.l {
		for _, c := range t.Rows {
			all = append(all, c.Key)
		}
	}
	for _, w := range g.p.List {
		all = append(all, w.Key)
	}
	slices.Sort(all)
	return slices.Compact(all)
}

// The words of the chapters, gone through version by version and write by write.

func thereOf(t api.Table, k string, n int) (string, bool) {
	var told api.Version
	for _, c := range t.Rows {
		for _, v := range c.List {
			if c.Key == k && v.Commit <= n && v.Commit > told.Commit {
				told = v
			}
		}
	}
	return told.Value, told.Commit > 0 && !told.Gone
}

func lastOf(p api.Pend, t int, k string) (told api.Write, is bool) {
	for _, w := range p.List {
		if w.Table == t && w.Key == k {
			told, is = w, true
		}
	}
	return told, is
}

func getOf(g given, t int, k string, n int) (string, bool) {
	if w, is := lastOf(g.p, t, k); is {
		return w.Value, !w.Gone
	}
	return thereOf(g.l[t], k, n)
}

func holds(r api.Range, k string) bool { return k >= r.Low && (r.Top || k < r.High) }

func scanOf(g given, t int, r api.Range, n int, many int, back bool) []api.Row {
	var l []api.Row
	for _, k := range keys(g) {
		if v, is := getOf(g, t, k, n); is && holds(r, k) {
			l = append(l, api.Row{Key: k, Value: v})
		}
	}
	slices.SortFunc(l, func(a, b api.Row) int {
		if back {
			a, b = b, a
		}
		return strings.Compare(a.Key, b.Key)
	})
	return l[:min(many, len(l))]
}

func newestOf(t api.Table, k string) int {
	n := 0
	for _, c := range t.Rows {
		if c.Key == k {
			n = c.List[0].Commit
		}
	}
	return n
}

func sizeOf(t api.Table) int {
	n := 0
	for _, c := range t.Rows {
		n += len(c.List)
	}
	return n
}

func applyOf(g given, n int) ([]api.Table, api.Errno) {
	for _, w := range g.p.List {
		if w.Table >= len(g.l) || n < 1 || n > api.MaxNum || n <= newestOf(g.l[w.Table], w.Key) {
			return nil, api.ErrForm
		}
	}
	x := copyOf(g.l)
	for t := range x {
		var l []api.Chain
		for _, k := range keys(g) {
			var c api.Chain
			if w, is := lastOf(g.p, t, k); is {
				c = row(k, api.Version{Commit: n, Value: w.Value, Gone: w.Gone})
			}
			for _, was := range x[t].Rows {
				if was.Key == k {
					c = row(k, append(c.List, was.List...)...)
				}
			}
			if len(c.List) > 0 {
				l = append(l, c)
			}
		}
		if x[t].Rows = l; sizeOf(x[t]) > api.MaxRooms {
			return nil, api.ErrFull
		}
	}
	return x, api.OK
}

func copyOf(l []api.Table) []api.Table {
	var x []api.Table
	for _, t := range l {
		var rows []api.Chain
		for _, c := range t.Rows {
			rows = append(rows, row(c.Key, slices.Clone(c.List)...))
		}
		x = append(x, of(rows...))
	}
	return x
}

func sameTable(a, b api.Table) bool {
	return slices.EqualFunc(a.Rows, b.Rows, func(a, b api.Chain) bool { return a.Key == b.Key && slices.Equal(a.List, b.List) })
}

func equal(a, b []api.Table) bool { return slices.EqualFunc(a, b, sameTable) }

// Errors

type errnos struct{ get, scan, apply api.Errno }

func allForm() errnos { return errnos{api.ErrForm, api.ErrForm, api.ErrForm} }

// asked is what all calls are asked with.
type asked struct {
	t    int
	k    string
	r    api.Range
	n    int
	many int
	back bool
}

// ask calls each one, and holds what is beside an error to be zero.
func ask(t *testing.T, g given, a asked) errnos {
	t.Helper()
	v, get := view.Get(g.l, g.p, a.t, a.k, a.n)
	l, scan := view.Scan(g.l, g.p, a.t, a.r, a.n, a.many, a.back)
	x, apply := view.Apply(g.l, g.p, a.n)
	if get != api.OK && v != "" || scan != api.OK && len(l) > 0 || apply != api.OK && len(x) > 0 {
		t.Fatalf("%v, %v: beside an error: %q, %v, %v", g, a, v, l, x)
	}
	return errnos{get, scan, apply}
}

// R4: ErrForm stands ahead of ErrNone (a key that is not there) and ErrFull, and
// of a scan of nothing.
func TestWhatMayNotBeHandedIn(t *testing.T) {
	var bad []given
	for _, l := range badTables() {
		bad = append(bad, given{l, api.Pend{}}, given{l, own(put(0, "b", "v"), cut(0, "nowhere"))})
	}
	for _, p := range badPends() {
		bad = append(bad, given{some(), p}, given{some()[:1], p}, given{[]api.Table{spread(api.MaxRooms, 1)}, p}, given{nil, p})
	}
	for i, g := range bad {
		for _, a := range []asked{{0, "b", key.All(), 200, 9, false}, {0, "nowhere", to("a", "a"), api.MaxNum, 0, true}, {0, "a", to("b", "c"), 0, 1, false}, {len(g.l) - 1, "k", key.All(), 3, api.MaxNum, true}, {-1, "", to("b", "a"), -1, -1, false}} {
			if e := ask(t, g, a); e != allForm() {
				t.Errorf("%d, %v: %v", i, a, e)
			}
		}
	}
}

// A table's number 0, the last one, one behind it and below 0; also where there
// are own writes of it, and where there are fewer tables than may be.
func TestTheTableThatIsAsked(t *testing.T) {
	for i, g := range large() {
		for at := range g.l {
			if e := ask(t, g, asked{at, "a", key.All(), 9, 9, false}); e.get == api.ErrForm || e.scan != api.OK {
				t.Errorf("%d, table %d: %v", i, at, e)
			}
		}
		for _, at := range noTables(g.l) {
			for _, k := range append(badKeys(), "a", "b", "k", "nowhere") {
				for _, n := range []int{-1, 0, 9, api.MaxNum} {
					if e := ask(t, g, asked{at, k, key.All(), n, 9, n > 0}); e.get != api.ErrForm || e.scan != api.ErrForm {
						t.Errorf("%d, table %d, %q: %v", i, at, k, e)
					}
				}
			}
		}
	}
}

func TestWhatMayNotBeAsked(t *testing.T) {
	for i, g := range append(large(), smalls()[:200]...) {
		for at := range g.l {
			for _, k := range badKeys() {
				for _, n := range []int{-1, 0, 9, api.MaxNum + 1} {
					if v, e := view.Get(g.l, g.p, at, k, n); v != "" || e != api.ErrForm {
						t.Errorf("%d, %d, %d bytes: %q, %v", i, at, len(k), v, e)
					}
				}
			}
			for _, r := range badRanges() {
				for _, many := range append(badCounts(), 0, 1, api.MaxNum) {
					if l, e := view.Scan(g.l, g.p, at, r, 9, many, many == 1); len(l) > 0 || e != api.ErrForm {
						t.Errorf("%d, %d, %d, %d bytes: %v, %v", i, at, many, len(r.Low), l, e)
					}
				}
			}
			for _, r := range ranges() {
				for _, many := range badCounts() {
					if l, e := view.Scan(g.l, g.p, at, r, 9, many, i%2 == 0); len(l) > 0 || e != api.ErrForm {
						t.Errorf("%d, %d, %d, %v: %v, %v", i, at, many, r, l, e)
					}
				}
			}
		}
	}
}

// P11.1: Get

func TestGet(t *testing.T) {
	g := given{some(), mine()}
	bare := given{some(), api.Pend{}}
	for i, c := range []struct {
		g    given
		t    int
		k    string
		n    int
		want string
		e    api.Errno
	}{
		{g, 0, "b", 20, "own", api.OK}, {g, 0, "b", 0, "own", api.OK}, {g, 0, "b", 15, "own", api.OK}, {g, 0, "f", 16, "", api.ErrNone}, {g, 0, "h", 7, "again", api.OK}, {g, 0, "a", math.MinInt, "ahead", api.OK}, {g, 0, "e0", 99, "", api.ErrNone}, {g, 1, "b", 99, "", api.OK}, {g, 2, "b", 99, "", api.ErrNone},
		{g, 0, "d", 17, "d12", api.OK}, {g, 0, "d", 18, "", api.ErrNone}, {g, 0, "d", 11, "", api.ErrNone}, {g, 0, "d\x00", 12, "", api.OK}, {g, 0, "c", 99, "", api.ErrNone}, {g, 1, "a", 99, "", api.ErrNone}, {g, 1, "f", 99, "", api.ErrNone}, {g, 2, "\xff", 5, "first", api.OK}, {g, 2, "\xff", api.MaxNum, "last", api.OK}, {g, 2, "\xff", math.MaxInt, "last", api.OK}, {g, 2, "\xff", 0, "", api.ErrNone}, {g, 2, "h", 99, "", api.ErrNone},
		{bare, 0, "b", 20, "b20", api.OK}, {bare, 0, "b", 19, "", api.ErrNone}, {bare, 0, "b", 14, "b10", api.OK}, {bare, 0, "b", 9, "", api.ErrNone}, {bare, 0, "h", 99, "", api.ErrNone}, {bare, 2, "b", 99, "other", api.OK}, {bare, 1, "b", 99, "", api.ErrNone},
		{given{some(), own(put(0, "b", "x"), cut(0, "b"))}, 0, "b", 20, "", api.ErrNone}, {given{some(), own(cut(0, "b"), put(0, "b", ""))}, 0, "b", 20, "", api.OK}, {given{some(), own(put(2, "b", "x"))}, 0, "b", 20, "b20", api.OK}, {given{some(), own(cut(0, "b"))}, 2, "b", 20, "other", api.OK},
	} {
		if v, e := view.Get(c.g.l, c.g.p, c.t, c.k, c.n); v != c.want || e != c.e {
			t.Errorf("%d: %d, %q, %d: %q, %v", i, c.t, c.k, c.n, v, e)
		}
	}
}

func TestGetEverywhere(t *testing.T) {
	for _, g := range all() {
		for at := range g.l {
			for _, k := range keys(g) {
				for _, n := range commits(g.l) {
					want, wantE := "", api.ErrNone
					if v, is := getOf(g, at, k, n); is {
						want, wantE = v, api.OK
					}
					if v, e := view.Get(g.l, g.p, at, k, n); v != want || e != wantE {
						t.Fatalf("%v, %d, %q, %d: %q, %v, not %q, %v", g, at, k, n, v, e, want, wantE)
					}
				}
			}
		}
	}
}

// Own writes of a table that is not there change nothing of those that are.
func TestOwnWritesOfNoTable(t *testing.T) {
	g := given{some()[:1], own(put(1, "b", "x"), cut(2, "b"))}
	if v, e := view.Get(g.l, g.p, 0, "b", 20); v != "b20" || e != api.OK {
		t.Errorf("%q, %v", v, e)
	}
	if l, e := view.Scan(g.l, g.p, 0, key.All(), 10, 9, false); !slices.Equal(l, []api.Row{{Key: "b", Value: "b10"}}) || e != api.OK {
		t.Errorf("%v, %v", l, e)
	}
	for _, p := range []api.Pend{g.p, own(put(1, "b", "x")), own(put(0, "a", "v"), put(1, "b", "x")), own(put(2, "b", "x"), put(0, "a", "v"))} {
		for _, l := range [][]api.Table{some()[:1], {spread(api.MaxRooms, 1)}} {
			if x, e := view.Apply(l, p, 200); len(x) > 0 || e != api.ErrForm {
				t.Errorf("%v, %v: %v, %v", l, p, x, e)
			}
		}
	}
}

// P11.1: Scan

func rows(l ...string) []api.Row {
	var told []api.Row
	for at := 0; at < len(l); at += 2 {
		told = append(told, api.Row{Key: l[at], Value: l[at+1]})
	}
	return told
}

func TestScan(t *testing.T) {
	g, bare := given{some(), mine()}, given{some(), api.Pend{}}
	early := rows("a", "ahead", "b", "own", "e", "between", "h", "again", "z", "behind")
	for i, c := range []struct {
		g    given
		t    int
		r    api.Range
		n    int
		many int
		back bool
		want []api.Row
	}{
		{g, 0, key.All(), 0, 9, false, early}, {g, 0, key.All(), -5, api.MaxNum, false, early}, {g, 0, key.All(), 0, 5, false, early}, {g, 0, key.All(), 0, 4, false, early[:4]}, {g, 0, key.All(), 0, 1, false, early[:1]}, {g, 0, key.All(), 0, 0, false, nil},
		{g, 0, key.All(), 17, 9, false, rows("a", "ahead", "b", "own", "d", "d12", "d\x00", "", "e", "between", "h", "again", "z", "behind")}, {g, 0, key.All(), 18, 9, false, rows("a", "ahead", "b", "own", "d\x00", "", "e", "between", "h", "again", "z", "behind")},
		{g, 0, key.All(), 17, 3, true, rows("z", "behind", "h", "again", "e", "between")}, {g, 0, key.All(), 17, 6, true, rows("z", "behind", "h", "again", "e", "between", "d\x00", "", "d", "d12", "b", "own")}, {g, 0, key.All(), 17, 0, true, nil},
		{g, 0, to("b", "b\x00"), 17, 9, false, rows("b", "own")}, {g, 0, to("e", "e\x00"), 17, 9, true, rows("e", "between")}, {g, 0, to("f", "f\x00"), 17, 9, false, nil}, {g, 0, to("a\x00", "b"), 17, 9, false, nil}, {g, 0, to("b", "e"), 17, 9, true, rows("d\x00", "", "d", "d12", "b", "own")}, {g, 0, to("d", "e\x00"), 17, 2, false, rows("d", "d12", "d\x00", "")}, {g, 0, top("e"), 17, 2, false, rows("e", "between", "h", "again")}, {g, 0, top("e"), 17, 2, true, rows("z", "behind", "h", "again")}, {g, 0, to("a", "a"), 17, 9, false, nil}, {g, 0, to("", ""), 17, 9, false, nil}, {g, 0, top("zz"), 17, 9, false, nil}, {g, 0, to("", "a"), 17, 9, false, nil}, {g, 0, to("", "b"), 17, 9, false, rows("a", "ahead")},
		{g, 1, key.All(), 17, 9, false, rows("b", "")}, {g, 2, key.All(), 17, 9, false, rows("\xff", "first")}, {g, 2, to("b", "b\x00"), 17, 9, false, nil},
		{bare, 0, key.All(), 17, 9, false, rows("d", "d12", "d\x00", "", "f", "f16")}, {bare, 0, key.All(), 20, 2, true, rows("f", "f16", "d\x00", "")}, {bare, 0, to("d", "d\x00"), 17, 9, false, rows("d", "d12")}, {bare, 1, key.All(), 17, 9, true, nil}, {bare, 2, key.All(), api.MaxNum, 1, true, rows("\xff", "last")}, {bare, 0, key.All(), 0, 9, false, nil},
		{given{some(), own(cut(0, "d"), cut(0, "d\x00"))}, 0, key.All(), 17, 1, false, rows("f", "f16")}, {given{some(), own(cut(0, "f"), cut(0, "d\x00"))}, 0, key.All(), 17, 1, true, rows("d", "d12")}, {given{some(), own(cut(0, "d"), cut(0, "d\x00"), cut(0, "f"))}, 0, key.All(), 17, 1, true, nil}, {given{some(), own(put(0, "c", "1"), put(0, "a", "2"))}, 0, key.All(), 17, 2, false, rows("a", "2", "c", "1")},
	} {
		if l, e := view.Scan(c.g.l, c.g.p, c.t, c.r, c.n, c.many, c.back); !slices.Equal(l, c.want) || e != api.OK {
			t.Errorf("%d: %v, %v, not %v", i, l, e, c.want)
		}
	}
}

func wantScan(t *testing.T, g given, at int, r api.Range, n, many int) {
	t.Helper()
	for _, back := range []bool{false, true} {
		want := scanOf(g, at, r, n, many, back)
		if l, e := view.Scan(g.l, g.p, at, r, n, many, back); !slices.Equal(l, want) || e != api.OK {
			t.Fatalf("%v, %d, %v, %d, at most %d, back %v: %v, %v, not %v", g, at, r, n, many, back, l, e, want)
		}
	}
}

func TestScanEverywhere(t *testing.T) {
	for _, g := range smalls() {
		for _, r := range ranges() {
			wantScan(t, g, 0, r, 1, api.MaxNum)
			wantScan(t, g, 0, r, 2, 2)
		}
		for many := range 4 {
			wantScan(t, g, 0, key.All(), 2, many)
			wantScan(t, g, many%2, key.All(), many-1, api.MaxNum)
		}
	}
	for _, g := range large() {
		for at := range g.l {
			for _, r := range moreRanges() {
				for _, n := range []int{math.MinInt, 0, 1, 10, 17, 37, 98, 99, 100, api.MaxNum, math.MaxInt} {
					wantScan(t, g, at, r, n, 3)
					wantScan(t, g, at, r, n, api.MaxNum)
				}
			}
		}
	}
}

// Many 0, 1, fewer and more than there are, up to MaxNum.
func TestScanAtMost(t *testing.T) {
	for _, g := range large() {
		for at := range g.l {
			for many := range api.MaxRooms + api.MaxOps + 2 {
				wantScan(t, g, at, key.All(), 100, many)
			}
			wantScan(t, g, at, key.All(), 100, api.MaxNum-1)
			wantScan(t, g, at, top("d"), 100, api.MaxNum)
		}
	}
}

// Where nothing is written of what is asked, it is table.Get's and table.Scan's.
func TestWithoutOwnWrites(t *testing.T) {
	for _, g := range large() {
		for at, x := range g.l {
			p := own(slices.DeleteFunc(slices.Clone(g.p.List), func(w api.Write) bool { return w.Table == at })...)
			for _, n := range commits(g.l) {
				for _, k := range keys(g) {
					want, wantE := table.Get(x, k, n)
					if v, e := view.Get(g.l, p, at, k, n); v != want || e != wantE {
						t.Fatalf("%v, %d, %q, %d: %q, %v", g, at, k, n, v, e)
					}
				}
				want, wantE := table.Scan(x, top("b"), n, 4, n%2 == 0)
				if l, e := view.Scan(g.l, p, at, top("b"), n, 4, n%2 == 0); !slices.Equal(l, want) || e != wantE {
					t.Fatalf("%v, %d, %d: %v, %v", g, at, n, l, e)
				}
			}
		}
	}
}

// P11.1: Apply

func TestApply(t *testing.T) {
	a, b, c := row("b", is(4, "b4"), gone(2)), row("d", gone(6)), row("f", is(1, ""))
	l := []api.Table{of(a, b, c), {}, of(a)}
	for i, x := range []struct {
		l    []api.Table
		p    api.Pend
		n    int
		want []api.Table
	}{
		{l, own(put(0, "a", "new")), 1, []api.Table{of(row("a", is(1, "new")), a, b, c), {}, of(a)}}, {l, own(cut(0, "c")), 3, []api.Table{of(a, row("c", gone(3)), b, c), {}, of(a)}}, {l, own(put(2, "z", "")), api.MaxNum, []api.Table{of(a, b, c), {}, of(a, row("z", is(api.MaxNum, "")))}},
		{l, own(put(0, "b", "x")), 5, []api.Table{of(row("b", is(5, "x"), is(4, "b4"), gone(2)), b, c), {}, of(a)}}, {l, own(cut(0, "d")), 7, []api.Table{of(a, row("d", gone(7), gone(6)), c), {}, of(a)}}, {l, own(put(0, "b", "x"), put(0, "b", "y"), cut(0, "b")), 9, []api.Table{of(row("b", gone(9), is(4, "b4"), gone(2)), b, c), {}, of(a)}},
		{l, own(put(2, "b", "2"), put(0, "f", "0"), put(1, "b", "1"), cut(0, "a")), 8, []api.Table{of(row("a", gone(8)), a, b, row("f", is(8, "0"), is(1, ""))), of(row("b", is(8, "1"))), of(row("b", is(8, "2"), is(4, "b4"), gone(2)))}},
		{l, api.Pend{Marks: []int{0}}, 0, l}, {l, api.Pend{}, math.MinInt, l}, {l, api.Pend{}, api.MaxNum + 1, l}, {nil, api.Pend{}, 5, nil}, {make([]api.Table, 2), own(put(1, "k", "v")), 1, []api.Table{{}, of(row("k", is(1, "v")))}},
	} {
		if y, e := view.Apply(x.l, x.p, x.n); !equal(y, x.want) || e != api.OK {
			t.Errorf("%d: %v, %v, not %v", i, y, e, x.want)
		}
	}
}

func TestApplyEverywhere(t *testing.T) {
	for _, g := range all() {
		for _, n := range append(commits(g.l), 200) {
			want, wantE := applyOf(g, n)
			x, e := view.Apply(g.l, g.p, n)
			if !equal(x, want) || e != wantE {
				t.Fatalf("%v, %d: %v, %v, not %v, %v", g, n, x, e, want, wantE)
			}
			for _, y := range x {
				if table.Check(y) != api.OK {
					t.Fatalf("%v, %d: %v", g, n, x)
				}
			}
		}
	}
}

// A commit that is at or below the newest version of one of the keys, and the
// largest, one more, 0 and below.
func TestApplyOfCommits(t *testing.T) {
	l := []api.Table{of(row("b", is(9, "")), row("d", gone(7))), of(row("b", is(12, "")))}
	for i, c := range []struct {
		p    api.Pend
		from int
	}{
		{own(put(0, "a", "")), 1}, {own(put(0, "b", "")), 10}, {own(cut(0, "d")), 8}, {own(put(0, "d", ""), put(0, "b", "")), 10}, {own(put(1, "b", ""), cut(0, "b")), 13}, {own(put(0, "a", ""), cut(1, "b")), 13}, {own(put(1, "a", ""), cut(0, "e")), 1},
	} {
		for _, n := range []int{math.MinInt, -1, 0, 1, 2, 6, 7, 8, 9, 10, 11, 12, 13, 14, api.MaxNum - 1, api.MaxNum, api.MaxNum + 1, math.MaxInt} {
			want := api.OK
			if n < c.from || n > api.MaxNum {
				want = api.ErrForm
			}
			if x, e := view.Apply(l, c.p, n); e != want || e != api.OK && len(x) > 0 {
				t.Errorf("%d: %d: %v, %v", i, n, x, e)
			}
		}
	}
}

// As many versions as MaxRooms, and fewer: each key that is written takes one
// more, however often it was written, also if it is Gone.
func TestApplyWithoutRoom(t *testing.T) {
	for each := 1; each <= api.MaxRooms; each += 7 {
		for left := range 4 {
			for wants := range 6 {
				for at := range api.MaxTables {
					l := []api.Table{spread(9, 2), {}, spread(20, 20)}
					l[at] = spread(api.MaxRooms-left, each)
					var p api.Pend
					for i := range wants {
						k := num(i * 10 * each)
						p.List = append(p.List, put(at, k, ""), []api.Write{cut(at, k), put(at, k, "v")}[i%2])
					}
					x, e := view.Apply(l, p, 101)
					if wants > left && (e != api.ErrFull || len(x) > 0) || wants <= left && (e != api.OK || sizeOf(x[at]) != api.MaxRooms-left+wants) {
						t.Errorf("by %d, %d left, %d wanted of table %d: %v, %v", each, left, wants, at, x, e)
					}
				}
			}
		}
	}
}

// R4: ErrForm of one key stands ahead of ErrFull of another, whichever of them
// comes first.
func TestApplyFormAheadOfFull(t *testing.T) {
	full := func() api.Table { return spread(api.MaxRooms, 1) }
	for i, c := range []struct {
		l []api.Table
		p api.Pend
	}{
		{[]api.Table{full()}, own(put(0, "a", ""), put(0, num(0), ""))}, {[]api.Table{full()}, own(put(0, num(0), ""), put(0, "z", ""))}, {[]api.Table{full(), spread(3, 1)}, own(put(0, "a", ""), put(1, num(10), ""))}, {[]api.Table{spread(3, 1), full()}, own(put(1, "a", ""), put(0, num(10), ""))}, {[]api.Table{full(), {}}, own(put(0, "a", ""), put(2, "a", ""))}, {[]api.Table{full(), full()}, own(put(0, "a", ""), cut(1, num(0)))},
	} {
		if x, e := view.Apply(c.l, c.p, 100); len(x) > 0 || e != api.ErrForm {
			t.Errorf("%d: %v, %v", i, x, e)
		}
		if len(c.l) == 2 && len(c.l[1].Rows) == 0 {
			continue
		}
		if x, e := view.Apply(c.l, c.p, 101); len(x) > 0 || e != api.ErrFull {
			t.Errorf("%d, later: %v, %v", i, x, e)
		}
	}
}

// P11.2

// Of each key of each table; and what was there earlier stays to be seen.
func TestGetBehindApply(t *testing.T) {
	for _, g := range all() {
		for _, n := range append(commits(g.l), 200) {
			x, e := view.Apply(g.l, g.p, n)
			if e != api.OK {
				continue
			}
			for at := range g.l {
				for _, k := range keys(g) {
					with, withE := view.Get(g.l, g.p, at, k, n)
					if v, e := view.Get(x, api.Pend{}, at, k, n); v != with || e != withE {
						t.Fatalf("%v, %d: table %d, %q: %q, %v, not %q, %v", g, n, at, k, v, e, with, withE)
					}
					was, wasE := view.Get(g.l, api.Pend{}, at, k, n-1)
					if v, e := view.Get(x, api.Pend{}, at, k, n-1); n > 0 && (v != was || e != wasE) {
						t.Fatalf("%v, %d: table %d, %q, earlier: %q, %v, not %q, %v", g, n, at, k, v, e, was, wasE)
					}
				}
				with, _ := view.Scan(g.l, g.p, at, key.All(), n, api.MaxNum, false)
				if l, e := view.Scan(x, api.Pend{}, at, key.All(), n, api.MaxNum, false); !slices.Equal(l, with) || e != api.OK {
					t.Fatalf("%v, %d: table %d: %v, %v, not %v", g, n, at, l, e, with)
				}
			}
		}
	}
}

// Commit behind commit: each one is seen by those that come behind it, and by
// nobody ahead of it.
func TestManyCommits(t *testing.T) {
	l := make([]api.Table, 2)
	var seen [][]api.Row
	for n := 1; n <= 12; n++ {
		var p api.Pend
		for i := range 5 {
			w := put(i%2, num(i*n%7), strconv.Itoa(n))
			if i == n%4 {
				w = cut(w.Table, w.Key)
			}
			p, _ = pend.Put(p, w)
		}
		told, _ := view.Scan(l, p, 0, key.All(), n, api.MaxNum, false)
		x, e := view.Apply(l, p, n)
		if e != api.OK {
			t.Fatalf("%d: %v", n, e)
		}
		l, seen = x, append(seen, told)
		for at, want := range seen {
			if now, e := view.Scan(l, api.Pend{}, 0, key.All(), at+1, api.MaxNum, false); !slices.Equal(now, want) || e != api.OK {
				t.Fatalf("behind %d, at %d: %v, %v, not %v", n, at+1, now, e, want)
			}
		}
	}
}

// R2

func mark(commit int) api.Version { return api.Version{Commit: commit, Value: "mark"} }

// roomy is g with marks in the spare room of all its lists.
func roomy(g given) given {
	l := make([]api.Table, 0, len(g.l)+1)
	for _, t := range g.l {
		var rows []api.Chain
		for _, c := range t.Rows {
			rows = append(rows, row(c.Key, append(slices.Clone(c.List), mark(-7), mark(-8))[:len(c.List)]...))
		}
		l = append(l, of(append(rows, row("mark", mark(-1)), row("mark", mark(-2)))[:len(rows)]...))
	}
	l = append(l, of(row("mark", mark(-3))))[:len(g.l)]
	list := append(slices.Clone(g.p.List), put(-7, "mark", ""), cut(-8, "mark"))
	marks := append(slices.Clone(g.p.Marks), -7, -8)
	return given{l, api.Pend{List: list[:len(g.p.List)], Marks: marks[:len(g.p.Marks)]}}
}

// stays holds what roomy made of g, with all that was laid down, to be as it was.
func stays(t *testing.T, x, g given) {
	t.Helper()
	a, b := laidDown(x), laidDown(roomy(g))
	if !equal(a.l, b.l) || !slices.Equal(a.p.List, b.p.List) || !slices.Equal(a.p.Marks, b.p.Marks) {
		t.Fatalf("%v, not %v", a, b)
	}
}

// laidDown is all that roomy laid down, as lists.
func laidDown(g given) given {
	l := slices.Clone(g.l[:len(g.l)+1])
	for at, t := range g.l {
		rows := slices.Clone(t.Rows[:len(t.Rows)+2])
		for i, c := range t.Rows {
			rows[i].List = slices.Clone(c.List[:len(c.List)+2])
		}
		l[at].Rows = rows
	}
	return given{l, api.Pend{List: slices.Clone(g.p.List[:len(g.p.List)+2]), Marks: slices.Clone(g.p.Marks[:len(g.p.Marks)+2])}}
}

func TestHandedInStaysAsItIs(t *testing.T) {
	some := all()
	for _, l := range badTables() {
		some = append(some, given{l, mine()})
	}
	for _, p := range badPends() {
		some = append(some, given{[]api.Table{spread(9, 2)}, p})
	}
	for _, g := range some {
		x := roomy(g)
		for i, n := range []int{0, 2, 3, 101, api.MaxNum} {
			ask(t, x, asked{0, "a", key.All(), n, api.MaxNum, i%2 == 0})
			ask(t, x, asked{1, "b", to("b", "d"), n, 1, i%2 == 1})
			ask(t, x, asked{-1, "", to("b", "a"), n, -1, false})
		}
		stays(t, x, g)
	}
}

// scribble writes into told tables, and behind the ends of their lists.
func scribble(l []api.Table) {
	for _, t := range l {
		for _, c := range t.Rows {
			for at := range c.List[:cap(c.List)] {
				c.List[:cap(c.List)][at] = is(-1, "written")
			}
		}
		for at := range t.Rows[:cap(t.Rows)] {
			t.Rows[:cap(t.Rows)][at] = row("written")
		}
	}
	for at := range l[:cap(l)] {
		l[:cap(l)][at] = of(row("written"))
	}
}

// Whoever writes into what was told changes no other answer and nothing that was
// handed in: also of tables that nothing was written to.
func TestTablesAreCopies(t *testing.T) {
	for _, g := range all() {
		x := roomy(g)
		for _, n := range []int{3, 101, api.MaxNum} {
			one, e := view.Apply(x.l, x.p, n)
			two, f := view.Apply(x.l, x.p, n)
			was := copyOf(two)
			scribble(one)
			three, h := view.Apply(x.l, x.p, n)
			if !equal(two, was) || !equal(three, was) || e != f || e != h {
				t.Fatalf("%v, %d: %v, %v, not %v", g, n, two, three, was)
			}
			stays(t, x, g)
		}
	}
}

func TestRowsAreCopies(t *testing.T) {
	for _, g := range all() {
		x := roomy(g)
		for at := range g.l {
			for _, many := range []int{0, 1, 2, api.MaxNum} {
				one, _ := view.Scan(x.l, x.p, at, key.All(), 20, many, many == 2)
				two, _ := view.Scan(x.l, x.p, at, key.All(), 20, many, many == 2)
				was := slices.Clone(two)
				for i := range one[:cap(one)] {
					one[:cap(one)][i] = api.Row{Key: "written", Value: "written"}
				}
				three, _ := view.Scan(x.l, x.p, at, key.All(), 20, many, many == 2)
				if !slices.Equal(two, was) || !slices.Equal(three, was) {
					t.Fatalf("%v: %v, %v, not %v", g, two, three, was)
				}
			}
		}
		stays(t, x, g)
	}
}

// No two lists of one answer share memory, spare room too.
func TestListsOfAnAnswer(t *testing.T) {
	for _, g := range append(large(), smalls()[:500]...) {
		x, _ := view.Apply(g.l, g.p, 101)
		was := copyOf(x)
		for at, y := range x {
			for i, c := range y.Rows {
				for spare := range c.List[:cap(c.List)] {
					c.List[:cap(c.List)][spare] = is(-1, "written")
				}
				copy(c.List, was[at].Rows[i].List)
				if !equal(x, was) {
					t.Fatalf("%v: chain %d of table %d", g, i, at)
				}
			}
			for spare := len(y.Rows); spare < cap(y.Rows); spare++ {
				y.Rows[:cap(y.Rows)][spare] = row("written")
			}
			if !equal(x, was) {
				t.Fatalf("%v: table %d", g, at)
			}
		}
	}
}

// A list that is nil and one that is empty are one.
func TestNilAndEmptyAreOne(t *testing.T) {
	for _, l := range [][]api.Table{nil, {}, make([]api.Table, 0, 3), some()[:0]} {
		want := errnos{api.ErrForm, api.ErrForm, api.OK}
		if e := ask(t, given{l, api.Pend{}}, asked{0, "a", key.All(), 1, 1, false}); e != want {
			t.Errorf("%v", e)
		}
	}
	for _, chains := range [][]api.Chain{nil, {}, make([]api.Chain, 0, 3), some()[0].Rows[:0]} {
		for _, list := range [][]api.Write{nil, {}, make([]api.Write, 0, 3), mine().List[:0]} {
			for _, marks := range [][]int{nil, {}, make([]int, 0, 3)} {
				g := given{[]api.Table{of(chains...), {Rows: chains}}, api.Pend{List: list, Marks: marks}}
				for at := range g.l {
					if e := ask(t, g, asked{at, "a", key.All(), 1, 1, true}); e != (errnos{get: api.ErrNone}) {
						t.Errorf("%d: %v", at, e)
					}
				}
			}
		}
	}
}
