package chain_test

import (
	"math"
	"slices"
	"strconv"
	"strings"
	"testing"

	"quorum/api"
	"quorum/chain"
)

func is(commit int, value string) api.Version { return api.Version{Commit: commit, Value: value} }

func gone(commit int) api.Version { return api.Version{Commit: commit, Gone: true} }

func of(l ...api.Version) api.Chain { return api.Chain{Key: "k", List: l} }

// some has versions that are Gone, one behind the other too, an empty value, and
// room between its commits.
func some() api.Chain {
	return of(is(20, "t"), gone(17), gone(15), is(12, ""), gone(9), is(6, "s"), is(5, "f"))
}

func long(n int) string { return strings.Repeat("x", n) }

func equal(a, b api.Chain) bool { return a.Key == b.Key && slices.Equal(a.List, b.List) }

func isZero(c api.Chain) bool { return c.Key == "" && len(c.List) == 0 }

// chains are all that there may be with commits from 1 to 6, each one Gone or
// not: a chain of one version and of many, whose last one is Gone and is not.
func chains() []api.Chain {
	var all []api.Chain
	for code := 1; code < 3*3*3*3*3*3; code++ {
		c := api.Chain{Key: "q"}
		for commit, rest := 6, code; commit > 0; commit, rest = commit-1, rest/3 {
			switch rest % 3 {
			case 1:
				c.List = append(c.List, is(commit, "v"+strconv.Itoa(commit)))
			case 2:
				c.List = append(c.List, gone(commit))
			}
		}
		all = append(all, c)
	}
	return all
}

// many has n versions, up to MaxNum; each third is Gone.
func many(n int) api.Chain {
	c := api.Chain{Key: "many"}
	for i := range n {
		v := is(api.MaxNum-3*i, strconv.Itoa(i))
		if i%3 == 1 {
			v = gone(v.Commit)
		}
		c.List = append(c.List, v)
	}
	return c
}

// badVersions may be in no chain.
func badVersions() []api.Version {
	return []api.Version{
		{}, {Value: "v"}, {Gone: true}, is(0, ""), is(-1, "v"), is(math.MinInt, "v"), is(api.MaxNum+1, "v"), is(math.MaxInt, "v"),
		gone(0), gone(-1), gone(api.MaxNum + 1), is(50, long(api.MaxValue+1)), is(50, long(1<<20)), is(1, long(api.MaxValue+1)),
		{Commit: 50, Value: "v", Gone: true}, {Commit: 50, Value: "\x00", Gone: true}, {Commit: 50, Value: long(api.MaxValue), Gone: true}, {Commit: api.MaxNum, Value: "v", Gone: true},
	}
}

func badKeys() []string { return []string{"", long(api.MaxKey + 1), long(1 << 20)} }

func badChains() []api.Chain {
	l := []api.Chain{
		{}, {Key: "k"}, {Key: "k", List: []api.Version{}}, {Key: long(api.MaxKey)},
		of(is(3, "a"), is(3, "a")), of(is(3, "a"), is(3, "b")), of(gone(3), gone(3)), of(gone(3), is(3, "a")), of(is(9, "a"), is(3, "a"), is(3, "b"), is(1, "c")), of(is(1, ""), is(1, "")), of(is(api.MaxNum, ""), is(api.MaxNum, "")),
		of(is(3, "a"), is(4, "a")), of(is(1, ""), is(2, "")), of(gone(3), gone(4)), of(is(9, "a"), is(3, "a"), is(5, "b")), of(is(9, "a"), is(3, "a"), is(12, "b")), of(is(1, ""), is(api.MaxNum, "")), of(is(9, "a"), is(8, "b"), is(9, "c")),
	}
	for _, k := range badKeys() {
		l = append(l, api.Chain{Key: k, List: some().List}, api.Chain{Key: k, List: []api.Version{is(1, "v")}}, api.Chain{Key: k})
	}
	for _, v := range badVersions() {
		l = append(l, of(v), of(is(api.MaxNum, ""), v), of(v, is(1, "")), of(is(60, "a"), v, gone(1)))
	}
	return l
}

// numbers are at, between, ahead of and behind the commits of c.
func numbers(c api.Chain) []int {
	l := []int{math.MinInt, -1, 0, 1, 2, api.MaxNum - 1, api.MaxNum, api.MaxNum + 1, math.MaxInt}
	for _, v := range c.List {
		l = append(l, v.Commit-1, v.Commit, v.Commit+1)
	}
	slices.Sort(l)
	return slices.Compact(l)
}

// The words of the chapter, gone through version by version.

// newest is where the newest version of commit at most n stands; below 0: none.
func newest(c api.Chain, n int) int {
	told := -1
	for i, v := range c.List {
		if v.Commit <= n && (told < 0 || v.Commit > c.List[told].Commit) {
			told = i
		}
	}
	return told
}

func atOf(c api.Chain, n int) (api.Version, api.Errno) {
	i := newest(c, n)
	if i < 0 || c.List[i].Gone {
		return api.Version{}, api.ErrNone
	}
	return c.List[i], api.OK
}

func purgeOf(c api.Chain, n int) api.Chain {
	i := newest(c, n)
	var l []api.Version
	for at, v := range c.List {
		older := i >= 0 && v.Commit < c.List[i].Commit
		if !older && !(at == i && v.Gone) {
			l = append(l, v)
		}
	}
	if len(l) == 0 {
		return api.Chain{}
	}
	return api.Chain{Key: c.Key, List: l}
}

// Errors

type errnos struct{ check, at, add, purge, count api.Errno }

func allForm() errnos {
	return errnos{api.ErrForm, api.ErrForm, api.ErrForm, api.ErrForm, api.ErrForm}
}

// ask calls each one, and holds what is beside an error to be zero.
func ask(t *testing.T, c api.Chain, n int, v api.Version) errnos {
	t.Helper()
	here, at := chain.At(c, n)
	more, add := chain.Add(c, v)
	less, purge := chain.Purge(c, n)
	num, count := chain.Count(c)
	if at != api.OK && here != (api.Version{}) || add != api.OK && !isZero(more) || purge != api.OK && !isZero(less) || count != api.OK && num != 0 {
		t.Fatalf("%d versions, %d, %d: beside an error: %d, %d, %d, %d", len(c.List), n, v.Commit, here.Commit, len(more.List), len(less.List), num)
	}
	return errnos{chain.Check(c), at, add, purge, count}
}

func TestChainsThatMayBe(t *testing.T) {
	for i, c := range append(chains(),
		some(), of(is(1, "")), of(gone(1)), of(is(api.MaxNum, "v")), of(gone(api.MaxNum)), of(is(api.MaxNum, ""), is(1, "")), of(is(2, "a"), is(1, "a")), of(gone(2), gone(1)),
		of(is(3, long(api.MaxValue))), of(is(4, long(api.MaxValue)), gone(3), is(2, long(api.MaxValue))), of(is(3, "\x00\xff")), of(is(api.MaxNum, ""), is(api.MaxNum-1, "")),
		api.Chain{Key: long(api.MaxKey), List: some().List}, api.Chain{Key: "\x00", List: some().List}, api.Chain{Key: strings.Repeat("\xff", api.MaxKey), List: some().List}, many(1000),
	) {
		if e := chain.Check(c); e != api.OK {
			t.Errorf("%d: %v", i, e)
		}
	}
}

// R4: ErrForm stands ahead of ErrNone (nothing is there at n).
func TestChainsThatMayNotBe(t *testing.T) {
	coming := append(badVersions(), is(1, ""), is(api.MaxNum, "v"), gone(100))
	for i, c := range badChains() {
		for _, n := range numbers(c) {
			for _, v := range coming {
				if e := ask(t, c, n, v); e != allForm() {
					t.Errorf("%d, %d, %v: %v", i, n, v.Commit, e)
				}
			}
		}
	}
}

// Each length that a key and a value may have, and more.
func TestLengths(t *testing.T) {
	for n := range api.MaxValue + api.MaxKey {
		wantKey, wantValue := api.ErrForm, api.ErrForm
		if n > 0 && n <= api.MaxKey {
			wantKey = api.OK
		}
		if n <= api.MaxValue {
			wantValue = api.OK
		}
		_, newKey := chain.New(long(n), is(1, ""))
		_, newValue := chain.New("k", is(1, long(n)))
		_, added := chain.Add(some(), is(100, long(n)))
		if newKey != wantKey || chain.Check(api.Chain{Key: long(n), List: some().List}) != wantKey {
			t.Errorf("key of %d: %v", n, newKey)
		}
		if newValue != wantValue || added != wantValue || chain.Check(of(is(9, long(n)), gone(1))) != wantValue || chain.Check(of(gone(9), is(1, long(n)))) != wantValue {
			t.Errorf("value of %d: %v, %v", n, newValue, added)
		}
	}
}

// P8.1

func TestAt(t *testing.T) {
	for i, c := range []struct {
		c    api.Chain
		n    int
		want api.Version
	}{
		{some(), 5, is(5, "f")}, {some(), 6, is(6, "s")}, {some(), 7, is(6, "s")}, {some(), 8, is(6, "s")}, {some(), 12, is(12, "")}, {some(), 14, is(12, "")}, {some(), 20, is(20, "t")}, {some(), 21, is(20, "t")}, {some(), math.MaxInt, is(20, "t")},
		{of(is(1, "a")), 1, is(1, "a")}, {of(is(1, "")), 1, is(1, "")}, {of(is(1, "a")), api.MaxNum, is(1, "a")}, {of(is(api.MaxNum, "z")), api.MaxNum, is(api.MaxNum, "z")}, {of(is(api.MaxNum, "z")), api.MaxNum + 1, is(api.MaxNum, "z")},
		{of(gone(api.MaxNum), is(1, "a")), api.MaxNum - 1, is(1, "a")}, {of(is(2, "b"), gone(1)), 2, is(2, "b")}, {of(is(3, long(api.MaxValue)), is(2, "b")), 3, is(3, long(api.MaxValue))},
	} {
		if v, e := chain.At(c.c, c.n); v != c.want || e != api.OK {
			t.Errorf("%d, %d: %v, %v, not %v", i, c.n, v, e, c.want)
		}
	}
	for i, c := range []struct {
		c api.Chain
		n int
	}{
		{some(), math.MinInt}, {some(), -1}, {some(), 0}, {some(), 1}, {some(), 4}, {some(), 9}, {some(), 11}, {some(), 15}, {some(), 16}, {some(), 17}, {some(), 19},
		{of(is(1, "a")), 0}, {of(is(1, "a")), -1}, {of(gone(1)), 0}, {of(gone(1)), 1}, {of(gone(1)), api.MaxNum}, {of(is(api.MaxNum, "z")), api.MaxNum - 1}, {of(gone(api.MaxNum), is(1, "a")), api.MaxNum}, {of(gone(api.MaxNum), is(1, "a")), math.MaxInt}, {of(is(2, "b"), gone(1)), 1},
	} {
		if v, e := chain.At(c.c, c.n); v != (api.Version{}) || e != api.ErrNone {
			t.Errorf("%d, %d: %v, %v", i, c.n, v, e)
		}
	}
}

func TestAtEverywhere(t *testing.T) {
	for _, c := range append(chains(), some(), many(100)) {
		for _, n := range numbers(c) {
			want, wantE := atOf(c, n)
			if v, e := chain.At(c, n); v != want || e != wantE {
				t.Fatalf("%v, %d: %v, %v, not %v, %v", c, n, v, e, want, wantE)
			}
		}
	}
}

func TestAdd(t *testing.T) {
	for i, c := range []struct {
		c    api.Chain
		v    api.Version
		want api.Chain
	}{
		{of(is(1, "a")), is(2, "b"), of(is(2, "b"), is(1, "a"))}, {of(is(1, "a")), is(2, "a"), of(is(2, "a"), is(1, "a"))}, {of(is(1, "a")), gone(2), of(gone(2), is(1, "a"))}, {of(gone(1)), gone(2), of(gone(2), gone(1))}, {of(gone(1)), is(2, ""), of(is(2, ""), gone(1))},
		{of(is(7, "a"), gone(4)), is(8, long(api.MaxValue)), of(is(8, long(api.MaxValue)), is(7, "a"), gone(4))}, {of(is(api.MaxNum-1, "a")), is(api.MaxNum, "z"), of(is(api.MaxNum, "z"), is(api.MaxNum-1, "a"))}, {of(is(1, "a")), gone(api.MaxNum), of(gone(api.MaxNum), is(1, "a"))},
		{some(), is(21, "n"), of(is(21, "n"), is(20, "t"), gone(17), gone(15), is(12, ""), gone(9), is(6, "s"), is(5, "f"))},
		{api.Chain{Key: long(api.MaxKey), List: []api.Version{is(3, "c")}}, is(5, "e"), api.Chain{Key: long(api.MaxKey), List: []api.Version{is(5, "e"), is(3, "c")}}},
	} {
		if x, e := chain.Add(c.c, c.v); !equal(x, c.want) || e != api.OK || chain.Check(x) != api.OK {
			t.Errorf("%d: %v, %v", i, x, e)
		}
	}
}

// What comes is to be newer than all that is there.
func TestAddOfWhatIsNotNewer(t *testing.T) {
	for i, c := range append(chains(), some(), many(100), of(is(api.MaxNum, "")), of(is(1, ""))) {
		top := c.List[0].Commit
		for _, n := range numbers(c) {
			for _, v := range []api.Version{is(n, "v"), is(n, ""), gone(n)} {
				x, e := chain.Add(c, v)
				if n > top && n <= api.MaxNum {
					if want := (api.Chain{Key: c.Key, List: slices.Concat([]api.Version{v}, c.List)}); !equal(x, want) || e != api.OK {
						t.Errorf("%d, %v: %v, %v", i, v, x, e)
					}
				} else if !isZero(x) || e != api.ErrForm {
					t.Errorf("%d, %v: %v, %v", i, v, x, e)
				}
			}
		}
	}
}

func TestAddAndNewOfWhatMayNotBe(t *testing.T) {
	for i, v := range badVersions() {
		for _, c := range []api.Chain{of(is(1, "a")), of(gone(1)), some(), of(is(api.MaxNum, "z"))} {
			if x, e := chain.Add(c, v); !isZero(x) || e != api.ErrForm {
				t.Errorf("%d: %v, %v", i, x, e)
			}
		}
		for _, k := range append(badKeys(), "k", long(api.MaxKey)) {
			if x, e := chain.New(k, v); !isZero(x) || e != api.ErrForm {
				t.Errorf("%d: %v, %v", i, x, e)
			}
		}
	}
}

func TestNew(t *testing.T) {
	good := []api.Version{is(1, ""), is(1, "a"), is(7, long(api.MaxValue)), is(api.MaxNum, "z"), gone(1), gone(api.MaxNum), is(3, "\x00")}
	for i, v := range good {
		for _, k := range []string{"k", "\x00", "\xff", long(api.MaxKey)} {
			x, e := chain.New(k, v)
			if !equal(x, api.Chain{Key: k, List: []api.Version{v}}) || e != api.OK || chain.Check(x) != api.OK {
				t.Errorf("%d, %q: %v, %v", i, k, x, e)
			}
		}
		for _, k := range badKeys() {
			if x, e := chain.New(k, v); !isZero(x) || e != api.ErrForm {
				t.Errorf("%d, %d bytes: %v, %v", i, len(k), x, e)
			}
		}
	}
}

// A chain grows by Add to any length: the chapter has no limit.
func TestGrowing(t *testing.T) {
	c, e := chain.New("k", is(1, "0"))
	for i := 1; i < 500; i++ {
		if e != api.OK || len(c.List) != i {
			t.Fatalf("%d: %d, %v", i, len(c.List), e)
		}
		c, e = chain.Add(c, is(2*i+1, strconv.Itoa(i)))
	}
	for i := range 500 {
		if v, e := chain.At(c, 2*i+2); v != is(2*i+1, strconv.Itoa(i)) || e != api.OK {
			t.Errorf("%d: %v, %v", i, v, e)
		}
	}
}

// P8.2

func TestPurge(t *testing.T) {
	all := some().List
	for i, c := range []struct {
		c    api.Chain
		n    int
		want api.Chain
	}{
		{some(), math.MinInt, some()}, {some(), -1, some()}, {some(), 0, some()}, {some(), 4, some()}, {some(), 5, some()},
		{some(), 6, of(all[:6]...)}, {some(), 8, of(all[:6]...)}, {some(), 9, of(all[:4]...)}, {some(), 11, of(all[:4]...)}, {some(), 12, of(all[:4]...)}, {some(), 14, of(all[:4]...)},
		{some(), 15, of(all[:2]...)}, {some(), 16, of(all[:2]...)}, {some(), 17, of(all[0])}, {some(), 19, of(all[0])}, {some(), 20, of(all[0])}, {some(), api.MaxNum, of(all[0])}, {some(), math.MaxInt, of(all[0])},
		{of(is(1, "a")), 0, of(is(1, "a"))}, {of(is(1, "a")), 1, of(is(1, "a"))}, {of(is(1, "")), api.MaxNum, of(is(1, ""))}, {of(gone(1)), 0, of(gone(1))},
		{of(gone(9), is(3, "c")), 8, of(gone(9), is(3, "c"))}, {of(gone(9), gone(3)), 3, of(gone(9))}, {of(gone(9), gone(3)), 8, of(gone(9))}, {of(gone(9), gone(3)), 2, of(gone(9), gone(3))},
		{of(gone(api.MaxNum), is(1, "a")), api.MaxNum - 1, of(gone(api.MaxNum), is(1, "a"))}, {of(is(api.MaxNum, "z"), is(1, "a")), api.MaxNum, of(is(api.MaxNum, "z"))},
	} {
		if x, e := chain.Purge(c.c, c.n); !equal(x, c.want) || e != api.OK || chain.Check(x) != api.OK {
			t.Errorf("%d, %d: %v, %v, not %v", i, c.n, x, e, c.want)
		}
	}
}

// The example of the chapter.
func TestPurgeThatLeavesNothing(t *testing.T) {
	for i, c := range []struct {
		c    api.Chain
		from int
	}{
		{of(gone(1)), 1}, {of(gone(9)), 9}, {of(gone(9), is(3, "c")), 9}, {of(gone(9), gone(3)), 9}, {of(gone(9), is(8, "h"), gone(7), is(1, "a")), 9},
		{of(gone(api.MaxNum)), api.MaxNum}, {of(gone(api.MaxNum), is(1, "a")), api.MaxNum}, {api.Chain{Key: long(api.MaxKey), List: []api.Version{gone(2), is(1, "a")}}, 2},
	} {
		for _, n := range []int{c.from, c.from + 1, api.MaxNum, api.MaxNum + 1, math.MaxInt} {
			if x, e := chain.Purge(c.c, n); !isZero(x) || e != api.OK {
				t.Errorf("%d, %d: %v, %v", i, n, x, e)
			}
		}
		if x, e := chain.Purge(c.c, c.from-1); isZero(x) || e != api.OK {
			t.Errorf("%d: %v, %v", i, x, e)
		}
	}
}

func TestPurgeEverywhere(t *testing.T) {
	for _, c := range append(chains(), some(), many(100)) {
		for _, n := range numbers(c) {
			want := purgeOf(c, n)
			x, e := chain.Purge(c, n)
			if !equal(x, want) || e != api.OK {
				t.Fatalf("%v, %d: %v, %v, not %v", c, n, x, e, want)
			}
			if isZero(x) {
				continue
			}
			if y, e := chain.Purge(x, n); !equal(y, x) || e != api.OK {
				t.Fatalf("%v, %d: once more: %v, %v", x, n, y, e)
			}
		}
	}
}

func TestCount(t *testing.T) {
	for i, c := range append(chains(), some(), of(gone(1)), of(is(api.MaxNum, "")), many(1000)) {
		if n, e := chain.Count(c); n != len(c.List) || e != api.OK {
			t.Errorf("%d: %d, %v", i, n, e)
		}
	}
	if n, e := chain.Count(some()); n != 7 || e != api.OK {
		t.Errorf("%d, %v", n, e)
	}
}

// P8.3

// Where nothing is left there was nothing to be seen of n and later.
func TestAtBehindPurge(t *testing.T) {
	for _, c := range append(chains(), some(), many(50)) {
		for _, n := range numbers(c) {
			x, e := chain.Purge(c, n)
			if e != api.OK {
				t.Fatalf("%v, %d: %v", c, n, e)
			}
			for _, later := range numbers(c) {
				if later < n {
					continue
				}
				was, wasE := chain.At(c, later)
				now, nowE := api.Version{}, api.ErrNone
				if !isZero(x) {
					now, nowE = chain.At(x, later)
				}
				if now != was || nowE != wasE {
					t.Fatalf("%v, %d, at %d: %v, %v, not %v, %v", c, n, later, now, nowE, was, wasE)
				}
			}
		}
	}
}

// Versions that come behind a purge are seen as they would be without it.
func TestAddBehindPurge(t *testing.T) {
	for _, c := range chains() {
		for _, v := range []api.Version{is(9, "new"), gone(9)} {
			for n := range 9 {
				long, e := chain.Add(c, v)
				short, f := chain.Purge(c, n)
				if isZero(short) {
					short, f = chain.New(c.Key, v)
				} else {
					short, f = chain.Add(short, v)
				}
				if e != api.OK || f != api.OK {
					t.Fatalf("%v, %d: %v, %v", c, n, e, f)
				}
				for later := n; later < 12; later++ {
					was, wasE := chain.At(long, later)
					if now, nowE := chain.At(short, later); now != was || nowE != wasE {
						t.Fatalf("%v, %d, at %d: %v, %v, not %v, %v", c, n, later, now, nowE, was, wasE)
					}
				}
			}
		}
	}
}

// R2

// roomy is c with marks in the spare room of its list.
func roomy(c api.Chain) api.Chain {
	l := append(slices.Clone(c.List), is(-7, "mark"), is(-8, "mark"))
	return api.Chain{Key: c.Key, List: l[:len(c.List)]}
}

// spread is all that roomy laid down.
func spread(c api.Chain) []api.Version { return c.List[:len(c.List)+2] }

func TestHandedInStaysAsItIs(t *testing.T) {
	coming := append(badVersions(), is(100, "v"), gone(100), is(api.MaxNum, ""))
	for i, c := range append(append(chains(), some(), many(50)), badChains()...) {
		given := roomy(c)
		for _, n := range numbers(c) {
			for _, v := range coming {
				ask(t, given, n, v)
			}
		}
		if given.Key != c.Key || !slices.Equal(spread(given), spread(roomy(c))) {
			t.Errorf("%d: %d versions", i, len(c.List))
		}
	}
}

// scribble writes into a told list, and behind its end.
func scribble(c api.Chain) {
	for at := range c.List[:cap(c.List)] {
		c.List[:cap(c.List)][at] = is(-1, "written")
	}
}

// Whoever writes into what was told changes no other answer and nothing that was
// handed in.
func TestAnswersAreCopies(t *testing.T) {
	calls := []func(c api.Chain) (api.Chain, api.Errno){
		func(c api.Chain) (api.Chain, api.Errno) { return chain.Add(c, is(api.MaxNum, "new")) },
		func(c api.Chain) (api.Chain, api.Errno) { return chain.New(c.Key, c.List[0]) },
		func(c api.Chain) (api.Chain, api.Errno) { return chain.Purge(c, 0) },
		func(c api.Chain) (api.Chain, api.Errno) { return chain.Purge(c, 3) },
		func(c api.Chain) (api.Chain, api.Errno) { return chain.Purge(c, api.MaxNum) },
	}
	for i, c := range append(chains(), some()) {
		given := roomy(c)
		for at, call := range calls {
			one, e := call(given)
			two, f := call(given)
			was := api.Chain{Key: two.Key, List: slices.Clone(two.List)}
			scribble(one)
			three, g := call(given)
			if !equal(two, was) || !equal(three, was) || e != api.OK || f != api.OK || g != api.OK {
				t.Errorf("%d, %d: %v, %v, not %v", i, at, two, three, was)
			}
		}
		if given.Key != c.Key || !slices.Equal(spread(given), spread(roomy(c))) {
			t.Errorf("%d: %v, not %v", i, given, c)
		}
	}
}

// A list that is nil and one that is empty: neither is a chain.
func TestNilAndEmptyAreOne(t *testing.T) {
	for _, l := range [][]api.Version{nil, {}, make([]api.Version, 0, 3), some().List[:0]} {
		if e := ask(t, api.Chain{Key: "k", List: l}, 9, is(1, "v")); e != allForm() {
			t.Errorf("%v: %v", l, e)
		}
	}
}
