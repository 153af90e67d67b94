package check_test

import (
	"math"
	"slices"
	"strconv"
	"strings"
	"testing"

	"quorum/alone"
	"quorum/api"
	"quorum/check"
	"quorum/key"
	"quorum/lock"
	"quorum/plan"
)

func get(t int, k string) api.Op { return api.Op{Kind: api.OpGet, Table: t, Key: k} }

func hold(t int, k string) api.Op { return api.Op{Kind: api.OpHold, Table: t, Key: k} }

func insert(t int, k, v string) api.Op { return api.Op{Kind: api.OpInsert, Table: t, Key: k, Value: v} }

func put(t int, k, v string) api.Op { return api.Op{Kind: api.OpPut, Table: t, Key: k, Value: v} }

func cut(t int, k string) api.Op { return api.Op{Kind: api.OpDelete, Table: t, Key: k} }

func scan(t int, r api.Range, n int) api.Op {
	return api.Op{Kind: api.OpScan, Table: t, Keys: r, N: n}
}

func down(t int, r api.Range, n int) api.Op {
	return api.Op{Kind: api.OpScan, Table: t, Keys: r, N: n, Back: true}
}

func whole(t, mode int) api.Op { return api.Op{Kind: api.OpTable, Table: t, N: mode} }

func save() api.Op { return api.Op{Kind: api.OpSave} }

func back(n int) api.Op { return api.Op{Kind: api.OpReturn, N: n} }

func release(n int) api.Op { return api.Op{Kind: api.OpRelease, N: n} }

func commit() api.Op { return api.Op{Kind: api.OpCommit} }

func rollback() api.Op { return api.Op{Kind: api.OpRollback} }

func prog(l ...api.Op) api.Program { return api.Program{Ops: l} }

func reads(l ...api.Op) api.Program { return api.Program{Only: true, Ops: l} }

func to(low, high string) api.Range { return api.Range{Low: low, High: high} }

func top(low string) api.Range { return api.Range{Low: low, Top: true} }

func long(n int) string { return strings.Repeat("x", n) }

// good has each field between its edges.
func good() api.Config {
	return api.Config{Tables: 2, Locks: 20, Versions: 30, Group: 2, Policy: api.PolicyDie}
}

// of has as many tables.
func of(tables int) api.Config {
	c := good()
	c.Tables = tables
	return c
}

// repeated has n such ops.
func repeated(o api.Op, n int) api.Program { return prog(slices.Repeat([]api.Op{o}, n)...) }

// alike are n such programs.
func alike(g api.Program, n int) []api.Program { return slices.Repeat([]api.Program{g}, n) }

// list is programs, by itself.
func list(l ...api.Program) []api.Program { return l }

// ops are such of each kind as may be of so many tables, of each one.
func ops(tables int) []api.Op {
	var all []api.Op
	for t := range tables {
		all = append(all, get(t, "a"), hold(t, "a"), insert(t, "a", ""), put(t, long(api.MaxKey), long(api.MaxValue)), cut(t, "\x00"),
			scan(t, key.All(), 7), down(t, to("a", "b"), api.MaxNum), scan(t, to("b", "b"), 0), whole(t, api.ModeR), whole(t, api.ModeW))
	}
	return append(all, save(), back(0), back(api.MaxMarks-1), release(0), release(api.MaxMarks-1), commit(), rollback())
}

// badOps are such as may not be, of however many tables.
func badOps() []api.Op {
	return []api.Op{
		{}, {Key: "a"}, {Kind: -1}, {Kind: api.OpRollback + 1}, {Kind: math.MaxInt}, {Kind: math.MinInt}, get(-1, "a"), get(api.MaxTables, "a"), get(0, ""), hold(0, long(api.MaxKey+1)),
		insert(0, "", "v"), insert(0, "a", long(api.MaxValue+1)), put(math.MaxInt, "a", ""), cut(math.MinInt, "a"), {Kind: api.OpDelete, Key: "a", Value: "v"}, scan(0, to("b", "a"), 1), scan(0, key.All(), -1),
		down(0, key.All(), api.MaxNum+1), whole(0, api.ModeNone), whole(0, api.ModeC), back(-1), back(api.MaxMarks), release(api.MaxMarks), {Kind: api.OpSave, N: 1}, {Kind: api.OpCommit, Table: 1}, {Kind: api.OpRollback, Back: true},
	}
}

// each has an op of each kind.
func each() []api.Op {
	return []api.Op{get(0, "a"), hold(0, "a"), insert(1, "b", "v"), put(0, "a", ""), cut(1, "b"), scan(0, top(""), 1), whole(1, api.ModeW), save(), back(0), release(0), commit(), rollback()}
}

// configs are such as may be: each field at 1 and at its most, both policies.
func configs() []api.Config {
	var all []api.Config
	for tables := 1; tables <= api.MaxTables; tables++ {
		for _, locks := range []int{1, 2, api.MaxLocks - 1, api.MaxLocks} {
			for _, versions := range []int{1, 2, api.MaxRooms - 1, api.MaxRooms} {
				for group := 1; group <= api.MaxGroup; group++ {
					for _, policy := range []int{api.PolicyCircle, api.PolicyDie} {
						all = append(all, api.Config{Tables: tables, Locks: locks, Versions: versions, Group: group, Policy: policy})
					}
				}
			}
		}
	}
	return all
}

// badConfigs have one field each that may not be, and some have more.
func badConfigs() []api.Config {
	all := []api.Config{{}, {Tables: 1, Locks: 1, Versions: 1, Group: 1}, {Policy: api.PolicyDie}, {Tables: 4, Locks: 201, Versions: 65, Group: 5, Policy: 3}, {Tables: -1, Locks: -1, Versions: -1, Group: -1, Policy: -1}}
	for _, c := range []api.Config{good(), {Tables: 1, Locks: 1, Versions: 1, Group: 1, Policy: api.PolicyCircle}, {Tables: api.MaxTables, Locks: api.MaxLocks, Versions: api.MaxRooms, Group: api.MaxGroup, Policy: api.PolicyDie}} {
		for _, n := range []int{math.MinInt, -1, 0} {
			all = append(all, spoilt(c, n, n, n, n, n)...)
		}
		all = append(all, spoilt(c, api.MaxTables+1, api.MaxLocks+1, api.MaxRooms+1, api.MaxGroup+1, api.PolicyDie+1)...)
		all = append(all, spoilt(c, math.MaxInt, math.MaxInt, math.MaxInt, math.MaxInt, math.MaxInt)...)
	}
	return all
}

// spoilt are five configs, each with one field of c set.
func spoilt(c api.Config, tables, locks, versions, group, policy int) []api.Config {
	l := slices.Repeat([]api.Config{c}, 5)
	l[0].Tables, l[1].Locks, l[2].Versions, l[3].Group, l[4].Policy = tables, locks, versions, group, policy
	return l
}

// The words of the chapter, gone through anew, to hold the calls against.

func configError(c api.Config) api.Errno {
	least := [5]int{1, 1, 1, 1, 1}
	most := [5]int{3, 200, 64, 4, 2}
	for at, n := range [5]int{c.Tables, c.Locks, c.Versions, c.Group, c.Policy} {
		if n < least[at] || n > most[at] {
			return api.ErrConfig
		}
	}
	return api.OK
}

func programError(g api.Program, tables int) api.Errno {
	if tables < 1 || tables > 3 || len(g.Ops) > 12 {
		return api.ErrForm
	}
	for _, o := range g.Ops {
		if e := plan.Check(o, tables); e != api.OK {
			return e
		}
	}
	return api.OK
}

func programsError(c api.Config, l []api.Program) api.Errno {
	if e := configError(c); e != api.OK {
		return e
	}
	if len(l) > 6 {
		return api.ErrLimit
	}
	for _, g := range l {
		if e := programError(g, c.Tables); e != api.OK {
			return e
		}
	}
	return api.OK
}

// needs are how many locks and versions programs need, and how many picks.
func needs(l []api.Program) (locks, rooms, picks int) {
	most := 0
	for _, g := range l {
		if len(g.Ops) > most {
			most = len(g.Ops)
		}
		for _, o := range g.Ops {
			writes := o.Kind == api.OpInsert || o.Kind == api.OpPut || o.Kind == api.OpDelete
			asks := o.Kind == api.OpGet || o.Kind == api.OpHold || o.Kind == api.OpScan || o.Kind == api.OpTable
			if writes && !g.Only {
				locks, rooms = locks+2, rooms+1
			}
			if asks && !g.Only {
				locks++
			}
		}
	}
	for range len(l) + 1 {
		for range len(l) {
			picks += most + most + 2
		}
		picks++
	}
	return locks, rooms, picks
}

// ask holds all calls that take programs against the words.
func ask(t *testing.T, c api.Config, l []api.Program) {
	t.Helper()
	want := programsError(c, l)
	var locks, rooms, picks int
	if want == api.OK {
		locks, rooms, picks = needs(l)
	}
	wantAll(t, c, l, locks, rooms, picks, want)
}

func wantAll(t *testing.T, c api.Config, l []api.Program, locks, rooms, picks int, want api.Errno) {
	t.Helper()
	if e := check.Programs(c, l); e != want {
		t.Errorf("%v, %v: Programs: %v, not %v", c, l, e, want)
	}
	if n, e := check.Locks(c, l...); n != locks || e != want {
		t.Errorf("%v, %v: Locks: %d, %v, not %d, %v", c, l, n, e, locks, want)
	}
	if n, e := check.Rooms(c, l...); n != rooms || e != want {
		t.Errorf("%v, %v: Rooms: %d, %v, not %d, %v", c, l, n, e, rooms, want)
	}
	if n, e := check.Bound(c, l...); n != picks || e != want {
		t.Errorf("%v, %v: Bound: %d, %v, not %d, %v", c, l, n, e, picks, want)
	}
}

// P14.1

func TestConfigsThatMayBe(t *testing.T) {
	for _, c := range append(configs(), good()) {
		if e := check.Config(c); e != api.OK {
			t.Errorf("%+v: %v", c, e)
		}
		wantAll(t, c, nil, 0, 0, 1, api.OK)
		wantAll(t, c, list(prog(put(0, "a", ""))), 2, 1, 10, api.OK)
	}
}

func TestEdgesOfConfigs(t *testing.T) {
	for i, c := range []struct {
		set  func(c *api.Config, n int)
		most int
	}{
		{func(c *api.Config, n int) { c.Tables = n }, 3}, {func(c *api.Config, n int) { c.Locks = n }, 200}, {func(c *api.Config, n int) { c.Versions = n }, 64},
		{func(c *api.Config, n int) { c.Group = n }, 4}, {func(c *api.Config, n int) { c.Policy = n }, 2},
	} {
		for _, n := range []int{math.MinInt, -200, -1, 0, 1, 2, 3, 4, 5, c.most - 1, c.most, c.most + 1, 2 * c.most, math.MaxInt} {
			x := good()
			c.set(&x, n)
			want := api.ErrConfig
			if n >= 1 && n <= c.most {
				want = api.OK
			}
			if e := check.Config(x); e != want {
				t.Errorf("%d: %+v: %v", i, x, e)
			}
			if e := check.Programs(x, nil); e != want {
				t.Errorf("%d: %+v: Programs: %v", i, x, e)
			}
		}
	}
}

func TestPolicies(t *testing.T) {
	for policy, want := range map[int]api.Errno{api.PolicyNone - 1: api.ErrConfig, api.PolicyNone: api.ErrConfig, api.PolicyCircle: api.OK, api.PolicyDie: api.OK, api.PolicyDie + 1: api.ErrConfig} {
		c := good()
		c.Policy = policy
		if e := check.Config(c); e != want {
			t.Errorf("%d: %v", policy, e)
		}
	}
}

// A config that may not be stands ahead of all else.
func TestConfigsThatMayNotBe(t *testing.T) {
	bad := prog(api.Op{})
	for _, c := range badConfigs() {
		if e := check.Config(c); e != api.ErrConfig {
			t.Errorf("%+v: %v", c, e)
		}
		for _, l := range [][]api.Program{nil, list(prog(put(0, "a", ""))), list(bad), alike(prog(), api.MaxProgs+1), alike(bad, api.MaxProgs+1), list(repeated(save(), api.MaxOps+1))} {
			wantAll(t, c, l, 0, 0, 0, api.ErrConfig)
		}
	}
}

func TestProgramsOfEachOp(t *testing.T) {
	for _, o := range ops(api.MaxTables) {
		for _, g := range []api.Program{prog(o), reads(o), repeated(o, api.MaxOps), prog(save(), o), prog(o, commit())} {
			for tables := -1; tables <= api.MaxTables+1; tables++ {
				want := api.ErrForm
				if tables > o.Table && tables <= api.MaxTables {
					want = api.OK
				}
				if e := check.Program(g, tables); e != want {
					t.Errorf("%v, of %d tables: %v", g, tables, e)
				}
				if e := check.Programs(of(tables), list(g)); tables >= 1 && tables <= api.MaxTables && e != want {
					t.Errorf("%v, of %d tables: Programs: %v", g, tables, e)
				}
			}
		}
	}
}

// Tables are asked of every program, also of one that has no ops.
func TestTablesOfPrograms(t *testing.T) {
	for tables, want := range map[int]api.Errno{
		math.MinInt: api.ErrForm, -1: api.ErrForm, 0: api.ErrForm, 1: api.OK, 2: api.OK, api.MaxTables: api.OK, api.MaxTables + 1: api.ErrForm, math.MaxInt: api.ErrForm,
	} {
		for _, g := range []api.Program{{}, reads(), prog(save()), reads(commit()), prog(get(0, "a")), repeated(put(0, "a", ""), api.MaxOps)} {
			if e := check.Program(g, tables); e != want {
				t.Errorf("%v, of %d tables: %v", g, tables, e)
			}
		}
	}
}

func TestLengthsOfPrograms(t *testing.T) {
	for n, want := range map[int]api.Errno{0: api.OK, 1: api.OK, api.MaxOps - 1: api.OK, api.MaxOps: api.OK, api.MaxOps + 1: api.ErrForm, api.MaxOps + 2: api.ErrForm, 100: api.ErrForm} {
		for _, o := range []api.Op{save(), commit(), get(0, "a"), put(1, "a", "")} {
			for _, only := range []bool{false, true} {
				g := repeated(o, n)
				g.Only = only
				if e := check.Program(g, 2); e != want {
					t.Errorf("%d of %v: %v", n, o, e)
				}
				ask(t, good(), list(g))
				ask(t, good(), list(prog(), g))
			}
		}
	}
}

func TestOpsThatMayNotBe(t *testing.T) {
	for _, o := range badOps() {
		for _, l := range [][]api.Op{{o}, {o, commit()}, {put(0, "a", ""), o, commit()}, {commit(), o}, append(slices.Repeat([]api.Op{save()}, api.MaxOps-1), o)} {
			for _, g := range []api.Program{prog(l...), reads(l...)} {
				for tables := -1; tables <= api.MaxTables+1; tables++ {
					if e := check.Program(g, tables); e != api.ErrForm {
						t.Errorf("%v, of %d tables: %v", g, tables, e)
					}
				}
				ok := prog(put(0, "a", ""))
				for _, all := range [][]api.Program{list(g), list(g, ok), list(ok, g), list(ok, g, ok), append(alike(ok, api.MaxProgs-1), g)} {
					wantAll(t, of(api.MaxTables), all, 0, 0, 0, api.ErrForm)
				}
			}
		}
	}
}

// An op's table is held against those of the config.
func TestTablesOfConfigs(t *testing.T) {
	for tables := 1; tables <= api.MaxTables; tables++ {
		last, behind := prog(put(tables-1, "a", "")), prog(put(tables, "a", ""))
		wantAll(t, of(tables), list(last), 2, 1, 10, api.OK)
		wantAll(t, of(tables), list(behind), 0, 0, 0, api.ErrForm)
		wantAll(t, of(tables), list(last, last, behind), 0, 0, 0, api.ErrForm)
		for _, o := range []api.Op{get(0, "a"), hold(0, "a"), insert(0, "a", ""), put(0, "a", ""), cut(0, "a"), scan(0, key.All(), 1), whole(0, api.ModeR)} {
			o.Table = tables - 1
			ask(t, of(tables), list(prog(o), reads(o)))
			o.Table = tables
			wantAll(t, of(tables), list(prog(o)), 0, 0, 0, api.ErrForm)
			wantAll(t, of(tables), list(reads(o)), 0, 0, 0, api.ErrForm)
		}
	}
}

func TestHowManyPrograms(t *testing.T) {
	bad, tooLong := prog(api.Op{}), repeated(save(), api.MaxOps+1)
	for n := range api.MaxProgs + 1 {
		wantAll(t, good(), make([]api.Program, n), 0, 0, (2*n+1)*(n+1), api.OK)
		wantAll(t, good(), alike(prog(put(0, "a", "")), n), 2*n, n, (4*n+1)*(n+1), api.OK)
	}
	for _, n := range []int{api.MaxProgs + 1, api.MaxProgs + 2, 100} {
		for _, g := range []api.Program{{}, prog(put(0, "a", "")), reads(get(0, "a")), bad, tooLong} {
			wantAll(t, good(), alike(g, n), 0, 0, 0, api.ErrLimit)
		}
		for _, at := range []int{0, 1, n - 1} {
			l := make([]api.Program, n)
			l[at] = bad
			wantAll(t, good(), l, 0, 0, 0, api.ErrLimit)
		}
	}
	wantAll(t, good(), alike(bad, api.MaxProgs), 0, 0, 0, api.ErrForm)
}

// P14.2

func TestNeedsOfEachKind(t *testing.T) {
	for _, c := range []struct {
		o            api.Op
		locks, rooms int
	}{
		{get(0, "a"), 1, 0}, {hold(0, "a"), 1, 0}, {insert(0, "a", ""), 2, 1}, {put(0, "a", "v"), 2, 1}, {cut(0, "a"), 2, 1}, {scan(0, key.All(), 3), 1, 0}, {down(0, to("a", "b"), 0), 1, 0},
		{scan(0, to("b", "b"), 1), 1, 0}, {whole(0, api.ModeR), 1, 0}, {whole(0, api.ModeW), 1, 0}, {save(), 0, 0}, {back(0), 0, 0}, {release(0), 0, 0}, {commit(), 0, 0}, {rollback(), 0, 0},
	} {
		for table := range api.MaxTables {
			o := c.o
			if o.Kind < api.OpSave {
				o.Table = table
			}
			for n := 1; n <= api.MaxOps; n++ {
				picks := 2 * (2*n + 3)
				wantAll(t, of(api.MaxTables), list(repeated(o, n)), n*c.locks, n*c.rooms, picks, api.OK)
				wantAll(t, of(api.MaxTables), list(reads(repeated(o, n).Ops...)), 0, 0, picks, api.OK)
			}
		}
		wantAll(t, good(), list(prog(c.o), reads(c.o), prog(c.o)), 2*c.locks, 2*c.rooms, 52, api.OK)
		wantAll(t, good(), list(prog(get(0, "a"), c.o)), 1+c.locks, c.rooms, 14, api.OK)
	}
}

// The example of the chapter.
func TestBoundOfNoPrograms(t *testing.T) {
	if n, e := check.Bound(good()); n != 1 || e != api.OK {
		t.Errorf("%d, %v", n, e)
	}
}

func TestNeedsOfPrograms(t *testing.T) {
	all, c := prog(each()...), prog(put(0, "a", ""), commit())
	for _, x := range []struct {
		l                   []api.Program
		locks, rooms, picks int
	}{
		{nil, 0, 0, 1}, {list(), 0, 0, 1}, {list(prog()), 0, 0, 6}, {list(reads()), 0, 0, 6}, {make([]api.Program, api.MaxProgs), 0, 0, 91},
		{list(all), 10, 3, 54}, {list(reads(each()...)), 0, 0, 54}, {list(c), 2, 1, 14}, {list(c, c), 4, 2, 39}, {list(c, c, c), 6, 3, 76},
		{list(all, c, prog()), 12, 4, 316}, {list(c, all, prog()), 12, 4, 316}, {list(prog(), c, all), 12, 4, 316}, {list(reads(each()...), c, prog()), 2, 1, 316}, {list(c, reads(each()...)), 2, 1, 159},
		{list(prog(put(0, "a", ""), put(0, "a", ""), put(0, "a", ""))), 6, 3, 18}, {list(prog(commit(), put(0, "a", ""))), 2, 1, 14}, {list(prog(rollback(), get(0, "a"))), 1, 0, 14},
		{list(prog(get(0, "a"), scan(1, key.All(), 9), commit())), 2, 0, 18}, {list(prog(whole(0, api.ModeW), put(0, "a", ""), put(0, "b", ""))), 5, 2, 18}, {list(reads(put(0, "a", ""))), 0, 0, 10},
	} {
		wantAll(t, good(), x.l, x.locks, x.rooms, x.picks, api.OK)
		ask(t, good(), x.l)
	}
}

// As much as there may be: more versions than a config may have.
func TestMostNeeds(t *testing.T) {
	for _, o := range []api.Op{insert(0, "a", ""), put(1, "a", ""), cut(2, "a")} {
		wantAll(t, of(api.MaxTables), alike(repeated(o, api.MaxOps), api.MaxProgs), 144, 72, 1099, api.OK)
	}
	for _, o := range []api.Op{get(0, "a"), hold(1, "a"), scan(2, key.All(), 1), whole(0, api.ModeW)} {
		wantAll(t, of(api.MaxTables), alike(repeated(o, api.MaxOps), api.MaxProgs), 72, 0, 1099, api.OK)
	}
	wantAll(t, of(api.MaxTables), alike(reads(repeated(put(0, "a", ""), api.MaxOps).Ops...), api.MaxProgs), 0, 0, 1099, api.OK)
}

// No answer but an error hangs on the config.
func TestNeedsDoNotHangOnTheConfig(t *testing.T) {
	l := list(prog(put(0, "a", ""), get(0, "b"), commit()), reads(get(0, "a")), prog(cut(0, "a")))
	for _, c := range configs() {
		wantAll(t, c, l, 5, 2, 100, api.OK)
	}
}

// Of unlike lengths, the longest one wherever it may be, and also where it reads
// alone.
func TestLongestWhereverItIs(t *testing.T) {
	for n := 1; n <= api.MaxProgs; n++ {
		for at := range n {
			for most := 1; most <= api.MaxOps; most++ {
				for _, only := range []bool{false, true} {
					l := alike(prog(put(0, "a", "")), n)
					l[at] = repeated(get(0, "a"), most)
					l[at].Only = only
					locks := 2 * (n - 1)
					if !only {
						locks += most
					}
					wantAll(t, good(), l, locks, n-1, (n*(2*most+2)+1)*(n+1), api.OK)
				}
			}
		}
	}
}

// All lists of up to three of these programs, and longer ones.
func TestAllAgainstTheWords(t *testing.T) {
	some := []api.Program{
		{}, reads(), prog(each()...), reads(each()...), prog(put(1, "a", ""), commit()), prog(get(0, "a"), hold(0, "a"), whole(0, api.ModeW)), repeated(cut(0, "z"), api.MaxOps),
		prog(get(2, "a")), repeated(save(), api.MaxOps+1), prog(commit(), api.Op{}), reads(put(0, "", "")),
	}
	lists := [][]api.Program{nil}
	for range 3 {
		var longer [][]api.Program
		for _, l := range lists {
			for _, g := range some {
				longer = append(longer, append(slices.Clone(l), g))
			}
		}
		for _, l := range longer {
			for _, c := range []api.Config{good(), of(1), of(api.MaxTables), of(0)} {
				ask(t, c, l)
			}
		}
		lists = longer
	}
	for _, g := range some {
		for n := range api.MaxProgs + 3 {
			ask(t, good(), alike(g, n))
			ask(t, of(api.MaxTables), append(alike(prog(), n), g))
		}
	}
}

// P14.3: what programs take, each of them run by itself, is together never more
// than was told.

// taken goes through a program's ops, takes each lock that is not covered, and
// tells all that are held behind it, and how many writes were pending at most.
func taken(t *testing.T, held []api.Lock, g api.Program, owner int) ([]api.Lock, int) {
	t.Helper()
	m := [][]api.Row{{{Key: "a", Value: "1"}, {Key: "b", Value: "2"}}, nil, {{Key: "c", Value: "3"}}}
	var p api.Pend
	rooms := 0
	for _, o := range g.Ops {
		if !g.Only {
			held = withLocks(t, held, o, p, owner)
		}
		next, _, e := alone.Do(m, p, o, g.Only)
		if e != api.OK {
			t.Fatalf("%v: %v", o, e)
		}
		p, rooms = next, max(rooms, len(next.List))
	}
	return held, rooms
}

func withLocks(t *testing.T, held []api.Lock, o api.Op, p api.Pend, owner int) []api.Lock {
	t.Helper()
	l, _ := plan.Locks(o, p, owner)
	for _, x := range l {
		if is, _ := lock.Covers(held, x); is {
			continue
		}
		next, e := lock.Take(held, x)
		if e != api.OK {
			t.Fatalf("%v, %v: %v", held, x, e)
		}
		held = next
	}
	return held
}

// withinNeeds holds programs against what is told of them. Locks of unlike owners
// are never one, so that those of each program add up.
func withinNeeds(t *testing.T, l []api.Program) {
	t.Helper()
	locks, e := check.Locks(of(api.MaxTables), l...)
	rooms, f := check.Rooms(of(api.MaxTables), l...)
	picks, h := check.Bound(of(api.MaxTables), l...)
	if e != api.OK || f != api.OK || h != api.OK {
		t.Fatalf("%v: %v, %v, %v", l, e, f, h)
	}
	held, wrote, rounds := 0, 0, 0
	for i, g := range l {
		mine, n := taken(t, nil, g, i)
		held, wrote, rounds = held+len(mine), wrote+n, max(rounds, len(g.Ops)+1)
	}
	if held > locks || wrote > rooms {
		t.Fatalf("%v: %d locks of %d, %d versions of %d", l, held, locks, wrote, rooms)
	}
	// Each round has a pick for each program, and a flush; behind its last op a
	// program is picked once more.
	if len(l) > 0 && rounds*(len(l)+1) > picks {
		t.Fatalf("%v: %d rounds, Bound %d", l, rounds, picks)
	}
}

func TestNoMoreIsTakenThanWasTold(t *testing.T) {
	all := []api.Op{get(0, "a"), hold(0, "a"), insert(0, "x", "v"), insert(0, "a", "v"), put(0, "a", "v"), put(1, "a", ""), cut(0, "a"), cut(0, "none"), scan(0, top(""), 2), scan(0, to("a", "a"), 2), whole(0, api.ModeR), whole(0, api.ModeW), save(), back(0), release(0), commit()}
	lists := []api.Program{{}}
	for range 4 {
		var longer []api.Program
		for _, g := range lists {
			for _, o := range all {
				longer = append(longer, prog(append(slices.Clone(g.Ops), o)...))
			}
		}
		for _, g := range longer {
			withinNeeds(t, list(g))
		}
		lists = longer
	}
}

func TestNoMoreIsTakenBySeveral(t *testing.T) {
	var puts, gets []api.Op
	for i := range api.MaxOps - 1 {
		k := "k" + strconv.Itoa(i)
		puts, gets = append(puts, put(i%api.MaxTables, k, "v")), append(gets, get(i%api.MaxTables, k))
	}
	some := []api.Program{
		prog(append(slices.Clone(puts), commit())...), reads(append(slices.Clone(puts), commit())...), prog(append(slices.Clone(gets), commit())...), reads(gets...), prog(each()...),
		prog(whole(0, api.ModeW), put(0, "a", ""), put(0, "b", ""), cut(0, "c"), commit()), prog(scan(0, top(""), 1), insert(0, "n", ""), cut(0, "n"), commit()), prog(), prog(rollback()),
	}
	for i, a := range some {
		for n := 1; n <= api.MaxProgs; n++ {
			withinNeeds(t, alike(a, n))
		}
		for _, b := range some[i:] {
			withinNeeds(t, list(a, b))
			withinNeeds(t, list(b, a, b, a, a, b))
		}
	}
}

// A lock that is covered by one on more keys makes one more to certify: both
// count.
func TestLocksAreTakenWhereOneIsCovered(t *testing.T) {
	g := prog(whole(0, api.ModeW), put(0, "a", ""), put(0, "b", ""), commit())
	held, rooms := taken(t, nil, g, 0)
	if n, _ := check.Locks(good(), g); len(held) != 3 || rooms != 2 || n != 5 {
		t.Errorf("%v, %d, %d", held, rooms, n)
	}
}

// R1: the same call tells the same. R2: what is handed in stays, spare room too.
func TestInputsStay(t *testing.T) {
	room := make([]api.Op, 3, 8)
	copy(room, each())
	l := make([]api.Program, 2, 4)
	l[0], l[1] = api.Program{Ops: room}, reads(each()...)
	spare, more := l[:4], room[:8]
	spare[3], more[7] = prog(commit()), rollback()
	wasOps, wasMore := slices.Clone(room), slices.Clone(more)
	for range 3 {
		ask(t, good(), l)
		ask(t, of(1), l)
		ask(t, of(0), l)
		check.Program(l[0], 2)
		check.Program(l[0], 0)
	}
	if !slices.Equal(l[0].Ops, wasOps) || !slices.Equal(more, wasMore) || !slices.Equal(l[1].Ops, each()) || l[0].Only || !l[1].Only {
		t.Errorf("%v", l)
	}
	if spare[2].Only || spare[2].Ops != nil || spare[3].Only || !slices.Equal(spare[3].Ops, []api.Op{commit()}) {
		t.Errorf("%v", spare)
	}
}

// R2: nothing is kept: what is changed behind a call is told anew by the next
// one.
func TestNothingIsKept(t *testing.T) {
	l := list(prog(get(0, "a"), commit()))
	wantAll(t, good(), l, 1, 0, 14, api.OK)
	l[0].Ops[0] = put(0, "a", "")
	wantAll(t, good(), l, 2, 1, 14, api.OK)
	l[0].Only = true
	wantAll(t, good(), l, 0, 0, 14, api.OK)
	l[0].Ops[1] = api.Op{}
	wantAll(t, good(), l, 0, 0, 0, api.ErrForm)
	l[0].Ops[1] = rollback()
	wantAll(t, good(), l, 0, 0, 14, api.OK)
}

// A nil list and an empty one are one.
func TestEmptyLists(t *testing.T) {
	wantAll(t, good(), nil, 0, 0, 1, api.OK)
	wantAll(t, good(), []api.Program{}, 0, 0, 1, api.OK)
	wantAll(t, good(), list(api.Program{Ops: []api.Op{}}), 0, 0, 6, api.OK)
	wantAll(t, good(), list(api.Program{Ops: nil}), 0, 0, 6, api.OK)
	if e, f := check.Program(api.Program{Ops: []api.Op{}}, 1), check.Program(api.Program{}, 1); e != api.OK || f != api.OK {
		t.Errorf("%v, %v", e, f)
	}
}
