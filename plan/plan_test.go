package plan_test

import (
	"cmp"
	"math"
	"slices"
	"strconv"
	"strings"
	"testing"

	"quorum/api"
	"quorum/key"
	"quorum/lock"
	"quorum/pend"
	"quorum/plan"
)

func on(kind, table int, k string) api.Op { return api.Op{Kind: kind, Table: table, Key: k} }

func with(kind, table int, k, v string) api.Op {
	return api.Op{Kind: kind, Table: table, Key: k, Value: v}
}

func scan(table int, r api.Range, n int, back bool) api.Op {
	return api.Op{Kind: api.OpScan, Table: table, Keys: r, N: n, Back: back}
}

func whole(table, mode int) api.Op { return api.Op{Kind: api.OpTable, Table: table, N: mode} }

func plain(kind int) api.Op { return api.Op{Kind: kind} }

func mark(kind, n int) api.Op { return api.Op{Kind: kind, N: n} }

func to(low, high string) api.Range { return api.Range{Low: low, High: high} }

func top(low string) api.Range { return api.Range{Low: low, Top: true} }

func put(table int, k, v string) api.Write { return api.Write{Table: table, Key: k, Value: v} }

func gone(table int, k string) api.Write { return api.Write{Table: table, Key: k, Gone: true} }

func own(l ...api.Write) api.Pend { return api.Pend{List: l} }

func long(n int) string { return strings.Repeat("x", n) }

// filled has n writes of as many keys, falling, from table to table.
func filled(n int) api.Pend {
	var p api.Pend
	for i := range n {
		p.List = append(p.List, put((n-i)%api.MaxTables, "k"+strconv.Itoa(100-i), "v"))
	}
	return p
}

// some has a key that was written twice, one in two tables, writes that are Gone
// ahead of others and behind them, and marks.
func some() api.Pend {
	return api.Pend{List: []api.Write{
		put(1, "b", "1"), put(2, "b", "2"), gone(1, "b"), put(1, "a", ""), gone(0, "z"), put(0, "z", "3"), gone(2, "\x00"), put(1, long(api.MaxKey), long(api.MaxValue)),
	}, Marks: []int{0, 2, 2, 8}}
}

// pends are what may be pending.
func pends() []api.Pend {
	return []api.Pend{
		{}, {Marks: []int{0}}, {Marks: []int{0, 0, 0, 0, 0, 0}}, own(put(0, "a", "v")), own(gone(2, "a")), own(put(0, "a", "1"), put(0, "a", "2")), own(put(0, "a", "1"), gone(0, "a")),
		own(put(1, "a", "1"), put(0, "a", "2"), put(2, "a", "3")), own(put(0, "b", ""), put(0, "a", ""), put(0, "ab", "")), some(), filled(api.MaxOps - 1), filled(api.MaxOps),
	}
}

// badPends are what may not be pending.
func badPends() []api.Pend {
	return []api.Pend{
		filled(api.MaxOps + 1), {Marks: []int{1}}, {Marks: []int{-1}}, {Marks: []int{0, 0, 0, 0, 0, 0, 0}}, {List: some().List, Marks: []int{3, 2}}, {List: some().List, Marks: []int{9}},
		own(put(-1, "a", "v")), own(put(api.MaxTables, "a", "v")), own(put(0, "", "v")), own(put(0, long(api.MaxKey+1), "v")), own(put(0, "a", long(api.MaxValue+1))), own(api.Write{Key: "a", Value: "v", Gone: true}),
		own(put(0, "a", "v"), put(0, "a", "w"), gone(3, "a")),
	}
}

// ops are such of each kind as may be, of tables up to the last one: those that
// name a table are of each one.
func ops() []api.Op {
	var all []api.Op
	for table := range api.MaxTables {
		for _, k := range []string{"a", "b", "\x00", "\xff", "no text\n", long(api.MaxKey)} {
			for _, kind := range []int{api.OpGet, api.OpHold, api.OpDelete} {
				all = append(all, on(kind, table, k))
			}
			for _, v := range []string{"", "v", "\x00\xff", long(api.MaxValue)} {
				all = append(all, with(api.OpInsert, table, k, v), with(api.OpPut, table, k, v))
			}
		}
		for _, r := range ranges() {
			for _, n := range []int{0, 1, 7, api.MaxNum} {
				all = append(all, scan(table, r, n, false), scan(table, r, n, true))
			}
		}
		all = append(all, whole(table, api.ModeR), whole(table, api.ModeW))
	}
	for n := range api.MaxMarks {
		all = append(all, mark(api.OpReturn, n), mark(api.OpRelease, n))
	}
	return append(all, plain(api.OpSave), plain(api.OpCommit), plain(api.OpRollback))
}

// ranges are such as may be: of all keys, of one, of some, and of none.
func ranges() []api.Range {
	return []api.Range{
		key.All(), top("m"), top(long(api.MaxKey + 1)), to("a", "a\x00"), to(long(api.MaxKey), long(api.MaxKey)+"\x00"), to("", "m"), to("a", "ab"), to("b", "\xff"),
		{}, to("b", "b"), to(long(api.MaxKey+1), long(api.MaxKey+1)),
	}
}

// badRanges are such as may not be.
func badRanges() []api.Range {
	return []api.Range{to("b", "a"), to("a", ""), to("a\x00", "a"), {Low: "a", High: "b", Top: true}, {High: "b", Top: true}, top(long(api.MaxKey + 2)), to("", long(api.MaxKey+2)), to(long(api.MaxKey+2), long(api.MaxKey+2))}
}

// badOps are such as may not be, of however many tables.
func badOps() []api.Op {
	all := []api.Op{{}, {Key: "a"}, {Table: 1, Key: "a"}, {N: 1}, {Keys: key.All()}}
	for _, kind := range []int{math.MinInt, -2, -1, api.OpNone, api.OpRollback + 1, api.OpRollback + 2, math.MaxInt} {
		all = append(all, plain(kind), on(kind, 0, "a"), with(kind, 0, "a", "v"), scan(0, key.All(), 1, false), whole(0, api.ModeR), mark(kind, 1))
		for at := len(all) - 3; at < len(all); at++ {
			all[at].Kind = kind
		}
	}
	for _, k := range []string{"", long(api.MaxKey + 1), long(100)} {
		all = append(all, on(api.OpGet, 0, k), on(api.OpHold, 0, k), on(api.OpDelete, 0, k), with(api.OpInsert, 0, k, "v"), with(api.OpPut, 0, k, "v"))
	}
	for _, v := range []string{long(api.MaxValue + 1), long(100)} {
		all = append(all, with(api.OpInsert, 0, "a", v), with(api.OpPut, 0, "a", v))
	}
	for _, r := range badRanges() {
		all = append(all, scan(0, r, 1, false), scan(2, r, 0, true))
	}
	for _, n := range []int{math.MinInt, -1, api.MaxNum + 1, math.MaxInt} {
		all = append(all, scan(0, key.All(), n, false), scan(0, api.Range{}, n, true))
	}
	for _, mode := range []int{math.MinInt, -1, api.ModeNone, api.ModeC, api.ModeC + 1, math.MaxInt} {
		all = append(all, whole(0, mode))
	}
	for _, n := range []int{math.MinInt, -1, api.MaxMarks, api.MaxMarks + 1, math.MaxInt} {
		all = append(all, mark(api.OpReturn, n), mark(api.OpRelease, n))
	}
	for _, o := range ops() {
		if namesOf(o.Kind).table {
			for _, table := range []int{math.MinInt, -1, api.MaxTables, api.MaxTables + 1, math.MaxInt} {
				o.Table = table
				all = append(all, o)
			}
		}
	}
	return all
}

// The words of the chapter, gone through field by field, to hold the calls
// against.

// names are the fields that a kind names.
type names struct{ table, key, value, keys, n, back bool }

func namesOf(kind int) names {
	switch kind {
	case api.OpGet, api.OpHold, api.OpDelete:
		return names{table: true, key: true}
	case api.OpInsert, api.OpPut:
		return names{table: true, key: true, value: true}
	case api.OpScan:
		return names{table: true, keys: true, n: true, back: true}
	case api.OpTable:
		return names{table: true, n: true}
	case api.OpReturn, api.OpRelease:
		return names{n: true}
	}
	return names{}
}

// least and most are the bounds of the N of a kind.
func boundsOf(kind int) (least, most int) {
	switch kind {
	case api.OpScan:
		return 0, api.MaxNum
	case api.OpTable:
		return api.ModeR, api.ModeW
	case api.OpReturn, api.OpRelease:
		return 0, api.MaxMarks - 1
	}
	return 0, 0
}

func opMayBe(o api.Op, tables int) bool {
	if tables < 1 || tables > api.MaxTables || o.Kind < api.OpGet || o.Kind > api.OpRollback {
		return false
	}
	has := namesOf(o.Kind)
	if has.table && (o.Table < 0 || o.Table >= tables) || !has.table && o.Table != 0 {
		return false
	}
	if has.key && (len(o.Key) == 0 || len(o.Key) > api.MaxKey) || !has.key && o.Key != "" {
		return false
	}
	if has.value && len(o.Value) > api.MaxValue || !has.value && o.Value != "" {
		return false
	}
	if has.keys && key.Check(o.Keys) != api.OK || !has.keys && o.Keys != (api.Range{}) {
		return false
	}
	least, most := boundsOf(o.Kind)
	return o.N >= least && o.N <= most && (has.back || !o.Back)
}

func errOf(is bool) api.Errno {
	if is {
		return api.OK
	}
	return api.ErrForm
}

// locksOf are the locks that an op needs.
func locksOf(o api.Op, p api.Pend, owner int) []api.Lock {
	one := func(table, mode int, k string) api.Lock {
		return api.Lock{Owner: owner, Table: table, Mode: mode, Keys: to(k, k+"\x00")}
	}
	switch {
	case o.Kind == api.OpGet:
		return []api.Lock{one(o.Table, api.ModeR, o.Key)}
	case o.Kind <= api.OpDelete:
		return []api.Lock{one(o.Table, api.ModeW, o.Key)}
	case o.Kind == api.OpScan && (o.Keys.Top || o.Keys.Low != o.Keys.High):
		return []api.Lock{{Owner: owner, Table: o.Table, Mode: api.ModeR, Keys: o.Keys}}
	case o.Kind == api.OpTable:
		return []api.Lock{{Owner: owner, Table: o.Table, Mode: o.N, Keys: top("")}}
	case o.Kind != api.OpCommit:
		return nil
	}
	var l []api.Lock
	for _, w := range p.List {
		if x := one(w.Table, api.ModeC, w.Key); !slices.Contains(l, x) {
			l = append(l, x)
		}
	}
	slices.SortFunc(l, func(a, b api.Lock) int {
		return cmp.Or(cmp.Compare(a.Table, b.Table), strings.Compare(a.Keys.Low, b.Keys.Low))
	})
	return l
}

// ask holds all calls against the words.
func ask(t *testing.T, o api.Op, p api.Pend, owner int) {
	t.Helper()
	for tables := -1; tables <= api.MaxTables+1; tables++ {
		if e := plan.Check(o, tables); e != errOf(opMayBe(o, tables)) {
			t.Fatalf("%+v, of %d tables: Check: %v", o, tables, e)
		}
	}
	may := opMayBe(o, api.MaxTables) && pend.Check(p) == api.OK && owner >= 0 && owner <= api.MaxNum
	var want []api.Lock
	if may {
		want = locksOf(o, p, owner)
	}
	if l, e := plan.Locks(o, p, owner); !slices.Equal(l, want) || e != errOf(may) {
		t.Fatalf("%+v, %v, of %d: Locks: %v, %v, not %v", o, p, owner, l, e, want)
	}
	if w := plan.Writes(o); w != slices.Contains([]int{api.OpHold, api.OpInsert, api.OpPut, api.OpDelete, api.OpTable}, o.Kind) {
		t.Fatalf("%+v: Writes: %v", o, w)
	}
}

// P12.1

func TestCheckOfOpsThatMayBe(t *testing.T) {
	for _, o := range ops() {
		for tables := 1; tables <= api.MaxTables; tables++ {
			if e := plan.Check(o, tables); e != errOf(o.Table < tables) {
				t.Errorf("%+v, of %d tables: %v", o, tables, e)
			}
		}
	}
}

func TestCheckOfTablesThatMayNotBe(t *testing.T) {
	for _, o := range ops() {
		for _, tables := range []int{math.MinInt, -1, 0, api.MaxTables + 1, api.MaxTables + 2, math.MaxInt} {
			if e := plan.Check(o, tables); e != api.ErrForm {
				t.Errorf("%+v, of %d tables: %v", o, tables, e)
			}
		}
	}
}

func TestOpsThatMayNotBe(t *testing.T) {
	for i, o := range badOps() {
		for tables := -1; tables <= api.MaxTables+1; tables++ {
			if e := plan.Check(o, tables); e != api.ErrForm {
				t.Errorf("%d: %+v, of %d tables: %v", i, o, tables, e)
			}
		}
		for _, p := range []api.Pend{{}, some()} {
			if l, e := plan.Locks(o, p, 1); len(l) > 0 || e != api.ErrForm {
				t.Errorf("%d: %+v: %v, %v", i, o, l, e)
			}
		}
	}
}

// Each field that an op's kind doesn't name, set to what is not its zero value,
// alone and with others.
func TestFieldsThatTheKindDoesNotName(t *testing.T) {
	for _, o := range ops() {
		has := namesOf(o.Kind)
		for i, c := range []struct {
			named bool
			set   func(*api.Op)
		}{
			{has.table, func(o *api.Op) { o.Table = 1 }}, {has.table, func(o *api.Op) { o.Table = -1 }}, {has.key, func(o *api.Op) { o.Key = "a" }}, {has.value, func(o *api.Op) { o.Value = "v" }},
			{has.keys, func(o *api.Op) { o.Keys.Low = "a" }}, {has.keys, func(o *api.Op) { o.Keys.High = "z" }}, {has.keys, func(o *api.Op) { o.Keys.Top = true }}, {has.keys, func(o *api.Op) { o.Keys = to("a", "b") }},
			{has.n, func(o *api.Op) { o.N = 1 }}, {has.n, func(o *api.Op) { o.N = -1 }}, {has.back, func(o *api.Op) { o.Back = true }},
		} {
			x := o
			c.set(&x)
			if !c.named && (plan.Check(o, api.MaxTables) != api.OK || plan.Check(x, api.MaxTables) != api.ErrForm) {
				t.Errorf("%d: %+v, %+v", i, o, x)
			}
			ask(t, x, some(), 1)
		}
	}
}

// Zero values where a kind asks for more, and the edges of each field.
func TestEdgesOfFields(t *testing.T) {
	for i, c := range []struct {
		o    api.Op
		want api.Errno
	}{
		{plain(api.OpGet), api.ErrForm}, {plain(api.OpHold), api.ErrForm}, {plain(api.OpInsert), api.ErrForm}, {plain(api.OpPut), api.ErrForm}, {plain(api.OpDelete), api.ErrForm}, {plain(api.OpTable), api.ErrForm},
		{plain(api.OpScan), api.OK}, {plain(api.OpSave), api.OK}, {plain(api.OpReturn), api.OK}, {plain(api.OpRelease), api.OK}, {plain(api.OpCommit), api.OK}, {plain(api.OpRollback), api.OK},
		{on(api.OpGet, 0, "a"), api.OK}, {on(api.OpGet, api.MaxTables-1, "a"), api.OK}, {on(api.OpGet, api.MaxTables, "a"), api.ErrForm}, {on(api.OpGet, -1, "a"), api.ErrForm},
		{on(api.OpInsert, 0, "a"), api.OK}, {on(api.OpHold, 0, long(api.MaxKey)), api.OK}, {on(api.OpHold, 0, long(api.MaxKey+1)), api.ErrForm}, {on(api.OpDelete, 0, "\x00"), api.OK},
		{with(api.OpInsert, 0, "a", long(api.MaxValue)), api.OK}, {with(api.OpInsert, 0, "a", long(api.MaxValue+1)), api.ErrForm}, {with(api.OpPut, 0, "a", long(api.MaxValue)), api.OK}, {with(api.OpPut, 0, "a", long(api.MaxValue+1)), api.ErrForm},
		{with(api.OpHold, 0, "a", "v"), api.ErrForm}, {with(api.OpDelete, 0, "a", "v"), api.ErrForm}, {with(api.OpGet, 0, "a", "v"), api.ErrForm},
		{scan(0, key.All(), -1, false), api.ErrForm}, {scan(0, key.All(), 0, false), api.OK}, {scan(0, key.All(), api.MaxNum, true), api.OK}, {scan(0, key.All(), api.MaxNum+1, true), api.ErrForm},
		{whole(0, api.ModeNone), api.ErrForm}, {whole(0, api.ModeR), api.OK}, {whole(0, api.ModeW), api.OK}, {whole(0, api.ModeC), api.ErrForm}, {whole(0, api.ModeC+1), api.ErrForm},
		{mark(api.OpReturn, -1), api.ErrForm}, {mark(api.OpReturn, 0), api.OK}, {mark(api.OpReturn, api.MaxMarks-1), api.OK}, {mark(api.OpReturn, api.MaxMarks), api.ErrForm},
		{mark(api.OpRelease, -1), api.ErrForm}, {mark(api.OpRelease, 0), api.OK}, {mark(api.OpRelease, api.MaxMarks-1), api.OK}, {mark(api.OpRelease, api.MaxMarks), api.ErrForm},
		{mark(api.OpSave, 1), api.ErrForm}, {mark(api.OpCommit, 1), api.ErrForm}, {mark(api.OpRollback, 1), api.ErrForm},
	} {
		if e := plan.Check(c.o, api.MaxTables); e != c.want {
			t.Errorf("%d: %+v: %v", i, c.o, e)
		}
	}
}

func TestLocksOfEachKind(t *testing.T) {
	at := func(table int, keys api.Range, mode int) api.Lock {
		return api.Lock{Owner: 7, Table: table, Keys: keys, Mode: mode}
	}
	for i, c := range []struct {
		op   api.Op
		want []api.Lock
	}{
		{on(api.OpGet, 2, "b"), []api.Lock{at(2, to("b", "b\x00"), api.ModeR)}}, {on(api.OpHold, 0, "a"), []api.Lock{at(0, to("a", "a\x00"), api.ModeW)}},
		{with(api.OpInsert, 1, "a", "v"), []api.Lock{at(1, to("a", "a\x00"), api.ModeW)}}, {with(api.OpPut, 1, "\xff", ""), []api.Lock{at(1, to("\xff", "\xff\x00"), api.ModeW)}},
		{on(api.OpDelete, 2, long(api.MaxKey)), []api.Lock{at(2, to(long(api.MaxKey), long(api.MaxKey)+"\x00"), api.ModeW)}},
		{scan(1, to("a", "c"), 3, false), []api.Lock{at(1, to("a", "c"), api.ModeR)}}, {scan(1, to("a", "c"), 0, true), []api.Lock{at(1, to("a", "c"), api.ModeR)}}, {scan(0, top(""), 1, true), []api.Lock{at(0, top(""), api.ModeR)}},
		{scan(0, to("a", "a\x00"), 1, false), []api.Lock{at(0, to("a", "a\x00"), api.ModeR)}}, {scan(2, to("b", "b"), 1, false), nil}, {scan(2, api.Range{}, 1, true), nil}, {scan(2, top("\xff\xff"), 1, false), []api.Lock{at(2, top("\xff\xff"), api.ModeR)}},
		{whole(2, api.ModeR), []api.Lock{at(2, top(""), api.ModeR)}}, {whole(0, api.ModeW), []api.Lock{at(0, top(""), api.ModeW)}},
		{plain(api.OpSave), nil}, {mark(api.OpReturn, 1), nil}, {mark(api.OpRelease, 1), nil}, {plain(api.OpRollback), nil},
		{plain(api.OpCommit), []api.Lock{at(0, to("z", "z\x00"), api.ModeC), at(1, to("a", "a\x00"), api.ModeC), at(1, to("b", "b\x00"), api.ModeC), at(1, to(long(api.MaxKey), long(api.MaxKey)+"\x00"), api.ModeC), at(2, to("\x00", "\x00\x00"), api.ModeC), at(2, to("b", "b\x00"), api.ModeC)}},
	} {
		if l, e := plan.Locks(c.op, some(), 7); !slices.Equal(l, c.want) || e != api.OK {
			t.Errorf("%d: %+v: %v, %v", i, c.op, l, e)
		}
	}
}

// The example of the chapter.
func TestGetNeedsOneLockToRead(t *testing.T) {
	l, e := plan.Locks(on(api.OpGet, 0, "a"), api.Pend{}, 0)
	if len(l) != 1 || l[0].Mode != api.ModeR || e != api.OK {
		t.Errorf("%v, %v", l, e)
	}
}

func TestLocksOfCommit(t *testing.T) {
	at := func(table int, k string) api.Lock {
		return api.Lock{Table: table, Keys: to(k, k+"\x00"), Mode: api.ModeC}
	}
	for i, c := range []struct {
		p    api.Pend
		want []api.Lock
	}{
		{api.Pend{}, nil}, {api.Pend{Marks: []int{0, 0}}, nil}, {own(put(2, "a", "v")), []api.Lock{at(2, "a")}}, {own(gone(2, "a")), []api.Lock{at(2, "a")}},
		{own(put(0, "a", "1"), put(0, "a", "2")), []api.Lock{at(0, "a")}}, {own(put(0, "a", "1"), gone(0, "a")), []api.Lock{at(0, "a")}}, {own(gone(0, "a"), put(0, "a", "")), []api.Lock{at(0, "a")}},
		{own(put(1, "a", "1"), put(0, "a", "2")), []api.Lock{at(0, "a"), at(1, "a")}}, {own(put(0, "b", ""), put(0, "ab", ""), put(0, "a", "")), []api.Lock{at(0, "a"), at(0, "ab"), at(0, "b")}},
		{own(put(1, "a", ""), put(0, "b", ""), put(1, "a", "x")), []api.Lock{at(0, "b"), at(1, "a")}},
	} {
		if l, e := plan.Locks(plain(api.OpCommit), c.p, 0); !slices.Equal(l, c.want) || e != api.OK {
			t.Errorf("%d: %v, %v", i, l, e)
		}
	}
}

func TestOwners(t *testing.T) {
	for _, o := range ops() {
		for _, owner := range []int{0, 1, api.MaxNum - 1, api.MaxNum} {
			l, e := plan.Locks(o, some(), owner)
			if e != api.OK || slices.ContainsFunc(l, func(x api.Lock) bool { return x.Owner != owner }) {
				t.Errorf("%+v, of %d: %v, %v", o, owner, l, e)
			}
		}
		for _, owner := range []int{math.MinInt, -1, api.MaxNum + 1, math.MaxInt} {
			if l, e := plan.Locks(o, some(), owner); len(l) > 0 || e != api.ErrForm {
				t.Errorf("%+v, of %d: %v, %v", o, owner, l, e)
			}
		}
	}
}

// What is pending is asked of every op, also of those that need nothing of it.
func TestWhatMayNotBePending(t *testing.T) {
	for _, o := range ops() {
		for i, p := range badPends() {
			if l, e := plan.Locks(o, p, 1); len(l) > 0 || e != api.ErrForm {
				t.Errorf("%+v, %d: %v, %v", o, i, l, e)
			}
		}
	}
}

// What is asked for, wherever it may be and may not be.
func TestAllAgainstTheWords(t *testing.T) {
	for _, o := range append(ops(), badOps()...) {
		for _, p := range append(pends(), badPends()...) {
			for _, owner := range []int{-1, 0, 3, api.MaxNum, api.MaxNum + 1} {
				ask(t, o, p, owner)
			}
		}
	}
}

// The locks that an op needs may be, and are taken where nobody else holds any.
func TestLocksMayBeTaken(t *testing.T) {
	for _, o := range ops() {
		for _, p := range pends() {
			l, _ := plan.Locks(o, p, 4)
			if e := lock.Check(l); e != api.OK {
				t.Fatalf("%+v, %v: %v, %v", o, p, l, e)
			}
			var held []api.Lock
			for _, x := range l {
				next, e := lock.Take(held, x)
				if e != api.OK {
					t.Fatalf("%+v, %v: %v, %v", o, p, x, e)
				}
				held = next
			}
			if !slices.Equal(held, l) {
				t.Fatalf("%+v, %v: %v, not %v", o, p, held, l)
			}
		}
	}
}

// P12.2

func TestWrites(t *testing.T) {
	for kind, want := range map[int]bool{
		math.MinInt: false, -1: false, api.OpNone: false, api.OpGet: false, api.OpHold: true, api.OpInsert: true, api.OpPut: true, api.OpDelete: true, api.OpScan: false, api.OpTable: true,
		api.OpSave: false, api.OpReturn: false, api.OpRelease: false, api.OpCommit: false, api.OpRollback: false, api.OpRollback + 1: false, math.MaxInt: false,
	} {
		for _, o := range []api.Op{plain(kind), on(kind, 0, "a"), with(kind, -1, long(100), long(100)), {Kind: kind, Keys: to("b", "a"), N: -1, Back: true}, mark(kind, api.ModeR)} {
			if plan.Writes(o) != want {
				t.Errorf("%+v: %v", o, !want)
			}
		}
	}
}

// What doesn't write needs no other locks than such to read, with nothing
// pending.
func TestWhoReadsAloneNeedsNoLockToWrite(t *testing.T) {
	for _, o := range ops() {
		l, _ := plan.Locks(o, api.Pend{}, 1)
		if !plan.Writes(o) && slices.ContainsFunc(l, func(x api.Lock) bool { return x.Mode != api.ModeR }) {
			t.Errorf("%+v: %v", o, l)
		}
	}
}

// P12.3

// All lists of up to five of these writes, and longer ones: as many locks as
// there are keys of tables.
func TestCommitHasAsManyLocksAsKeys(t *testing.T) {
	writes := []api.Write{put(0, "a", "1"), gone(0, "a"), put(1, "a", "1"), put(0, "b", ""), gone(2, "\xff")}
	lists := []api.Pend{{}}
	for range 5 {
		var longer []api.Pend
		for _, p := range lists {
			for _, w := range writes {
				longer = append(longer, own(append(slices.Clone(p.List), w)...))
			}
		}
		for _, p := range longer {
			wantAsManyAsKeys(t, p)
		}
		lists = longer
	}
	for _, p := range pends() {
		wantAsManyAsKeys(t, p)
	}
}

func wantAsManyAsKeys(t *testing.T, p api.Pend) {
	t.Helper()
	type place struct {
		table int
		key   string
	}
	keys := map[place]int{}
	for _, w := range p.List {
		keys[place{w.Table, w.Key}]++
	}
	l, e := plan.Locks(plain(api.OpCommit), p, 1)
	if len(l) != len(keys) || e != api.OK {
		t.Fatalf("%v: %v, %v, not %d", p, l, e, len(keys))
	}
	for _, x := range l {
		if keys[place{x.Table, x.Keys.Low}] == 0 || x.Mode != api.ModeC {
			t.Fatalf("%v: %v", p, x)
		}
	}
	ask(t, plain(api.OpCommit), p, 1)
}

// A commit of as many writes as may be pending, all of unlike keys.
func TestCommitOfAsManyAsMayBe(t *testing.T) {
	if l, e := plan.Locks(plain(api.OpCommit), filled(api.MaxOps), 1); len(l) != api.MaxOps || e != api.OK {
		t.Errorf("%v, %v", l, e)
	}
	if l, e := plan.Locks(plain(api.OpCommit), filled(api.MaxOps+1), 1); len(l) > 0 || e != api.ErrForm {
		t.Errorf("%v, %v", l, e)
	}
}

// R2

// roomy is p with spare room behind its lists, and something laid down there.
func roomy(p api.Pend) api.Pend {
	list := append(slices.Clone(p.List), put(-7, "spare", ""), gone(-8, "spare"))
	marks := append(slices.Clone(p.Marks), -7, -8)
	return api.Pend{List: list[:len(p.List)], Marks: marks[:len(p.Marks)]}
}

// sameLaidDown is whether all that roomy laid down is still there.
func sameLaidDown(given, p api.Pend) bool {
	was := roomy(p)
	return len(given.List) == len(p.List) && len(given.Marks) == len(p.Marks) &&
		slices.Equal(given.List[:len(p.List)+2], was.List[:len(p.List)+2]) && slices.Equal(given.Marks[:len(p.Marks)+2], was.Marks[:len(p.Marks)+2])
}

func TestHandedInStaysAsItIs(t *testing.T) {
	for i, p := range append(pends(), badPends()...) {
		given := roomy(p)
		for _, o := range append(ops(), badOps()...) {
			plan.Locks(o, given, 1)
			plan.Locks(o, given, -1)
		}
		if !sameLaidDown(given, p) {
			t.Fatalf("%d: %v, not %v", i, given, p)
		}
	}
}

// scribble writes into what was told, and behind its end.
func scribble(l []api.Lock) {
	l = l[:cap(l)]
	for at := range l {
		l[at] = api.Lock{Owner: -1, Table: -1, Keys: to("written", "written"), Mode: -1}
	}
}

// Whoever writes into what was told changes no other answer and nothing that was
// handed in.
func TestAnswersAreCopies(t *testing.T) {
	for i, p := range pends() {
		given := roomy(p)
		for _, o := range ops() {
			want := locksOf(o, p, 1)
			one, _ := plan.Locks(o, given, 1)
			two, _ := plan.Locks(o, given, 1)
			scribble(one)
			three, _ := plan.Locks(o, given, 1)
			if !slices.Equal(two, want) || !slices.Equal(three, want) || !sameLaidDown(given, p) {
				t.Fatalf("%d, %+v: %v, %v, not %v", i, o, two, three, want)
			}
		}
	}
}

// A list that is nil and one that is empty are one.
func TestNilAndEmptyAreOne(t *testing.T) {
	for _, list := range [][]api.Write{nil, {}, make([]api.Write, 0, 3), some().List[:0]} {
		for _, marks := range [][]int{nil, {}, make([]int, 0, 3), some().Marks[:0]} {
			for _, o := range ops() {
				ask(t, o, api.Pend{List: list, Marks: marks}, 1)
			}
		}
	}
}
