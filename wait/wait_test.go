package wait_test

import (
	"math"
	"slices"
	"testing"

	"quorum/api"
	"quorum/wait"
)

// on is one wait: the owner, and whom it waits for.
func on(owner int, others ...int) api.Wait { return api.Wait{Owner: owner, For: others} }

// idle are n owners, 0 and on, that wait for nobody.
func idle(n int) []api.Wait {
	var l []api.Wait
	for i := range n {
		l = append(l, on(i))
	}
	return l
}

// ring are n owners, 0 and on, each of which waits for the one behind it, and
// the last one for the first.
func ring(n int) []api.Wait {
	var l []api.Wait
	for i := range n {
		l = append(l, on(i, (i+1)%n))
	}
	return l
}

// some has a circle of 1, 2 and 4, a way into it (0), one out of it (7) and, in
// 3 and 9, numbers that are no owners.
func some() []api.Wait {
	return []api.Wait{on(0, 2, 9), on(1, 2), on(2, 3, 4), on(4, 1, 7), on(7, 9)}
}

// someAges has an age for all of some, and for two that are not in it.
func someAges() []int { return []int{3, 20, 10, 1, 15, 0, 40, 30, 50, 2} }

// upTo are ages 1 to n.
func upTo(n int) []int {
	var ages []int
	for i := range n {
		ages = append(ages, i+1)
	}
	return ages
}

func badLists() [][]api.Wait {
	return [][]api.Wait{
		idle(api.MaxProgs + 1), idle(2 * api.MaxProgs), ring(api.MaxProgs + 1),
		{on(-1)}, {on(-1), on(0)}, {on(math.MinInt)}, {on(math.MinInt), on(1, 0)},
		{on(0), on(0)}, {on(0, 1), on(0, 2)}, {on(1, 0), on(1, 0)}, {on(0), on(2), on(2)},
		{on(1), on(0)}, {on(0), on(2), on(1)}, {on(0), on(1), on(-2)}, {on(math.MaxInt), on(0)},
		{on(1, 0, 0)}, {on(1, 2, 2)}, {on(1, 2, 0)}, {on(5, 0, 1, 3, 2, 4)}, {on(1, 0, 2, 0)}, {on(0), on(1, 3, 2)},
		{on(1, -1)}, {on(1, -1, 0)}, {on(1, math.MinInt)}, {on(0, 1), on(1, -1, 2)}, {on(1, 0, 2, -1)},
		{on(0, 0)}, {on(1, 1)}, {on(1, 0, 1)}, {on(1, 1, 2)}, {on(1, 0, 1, 2)}, {on(0, 1), on(1, 0), on(2, 0, 1, 2)}, {on(math.MaxInt, math.MaxInt)},
	}
}

// Errors

type errnos struct{ check, reach, circle, victim api.Errno }

// ask calls each one, and holds what is beside an error to be zero.
func ask(t *testing.T, l []api.Wait, ages []int, o int) errnos {
	t.Helper()
	reached, reach := wait.Reach(l, o)
	round, circle := wait.Circle(l, o)
	n, victim := wait.Victim(l, ages, o)
	if reach != api.OK && len(reached) > 0 || circle != api.OK && len(round) > 0 || victim != api.OK && n != 0 {
		t.Errorf("%v, %v, %d: beside an error: %v, %v, %d", l, ages, o, reached, round, n)
	}
	return errnos{wait.Check(l), reach, circle, victim}
}

func TestListsThatMayBe(t *testing.T) {
	for i, l := range [][]api.Wait{
		nil, {}, some(), idle(1), idle(api.MaxProgs), ring(2), ring(api.MaxProgs),
		{on(0)}, {on(0, 1)}, {on(1, 0)}, {on(7)}, {on(7, 0, 8)}, {{Owner: 3, For: []int{}}},
		{on(0, 1, 2, 3, 4, 5, 6, 7, 8, 9)}, {on(2), on(5, 1, 2), on(9, 2, 5)},
		{on(0, math.MaxInt)}, {on(math.MaxInt, 0)}, {on(api.MaxNum+1, api.MaxNum)},
	} {
		for _, o := range []int{99, -1, math.MinInt} {
			e := ask(t, l, upTo(10), o)
			if e.check != api.OK || e.reach != api.OK || e.circle != api.OK {
				t.Errorf("%d: %v", i, e)
			}
		}
	}
}

// R4: ErrForm stands ahead of ErrNone: nobody leads back to 99.
func TestListsThatMayNotBe(t *testing.T) {
	for i, l := range badLists() {
		for _, o := range []int{0, 1, 2, 99, -1} {
			for _, ages := range [][]int{upTo(2 * api.MaxProgs), nil, {-1}} {
				if e := ask(t, l, ages, o); e != (errnos{api.ErrForm, api.ErrForm, api.ErrForm, api.ErrForm}) {
					t.Errorf("%d, %v, %d: %v", i, ages, o, e)
				}
			}
		}
	}
}

// P4.1

func TestReachAndCircle(t *testing.T) {
	two := []api.Wait{on(0, 1, 2), on(1, 0), on(2, 0, 3), on(3, 4), on(4, 3)}
	for i, c := range []struct {
		l             []api.Wait
		o             int
		reach, circle []int
	}{
		{some(), 0, []int{1, 2, 3, 4, 7, 9}, nil},
		{some(), 1, []int{1, 2, 3, 4, 7, 9}, []int{1, 2, 4}},
		{some(), 2, []int{1, 2, 3, 4, 7, 9}, []int{1, 2, 4}},
		{some(), 4, []int{1, 2, 3, 4, 7, 9}, []int{1, 2, 4}},
		{some(), 7, []int{9}, nil},
		{some(), 3, nil, nil}, {some(), 9, nil, nil}, {some(), 5, nil, nil}, {some(), -1, nil, nil},
		{some(), math.MaxInt, nil, nil}, {some(), math.MinInt, nil, nil},
		{two, 0, []int{0, 1, 2, 3, 4}, []int{0, 1, 2}}, {two, 1, []int{0, 1, 2, 3, 4}, []int{0, 1, 2}}, {two, 2, []int{0, 1, 2, 3, 4}, []int{0, 1, 2}},
		{two, 3, []int{3, 4}, []int{3, 4}}, {two, 4, []int{3, 4}, []int{3, 4}},
		{[]api.Wait{on(0, 1), on(1, 0)}, 0, []int{0, 1}, []int{0, 1}},
		{[]api.Wait{on(0, 1), on(1, 2)}, 0, []int{1, 2}, nil},
		{[]api.Wait{on(3, 5), on(5, 8), on(8, 3)}, 8, []int{3, 5, 8}, []int{3, 5, 8}},
		{[]api.Wait{on(1, 0, 2, math.MaxInt), on(2, 5)}, 1, []int{0, 2, 5, math.MaxInt}, nil},
		{[]api.Wait{on(0, math.MaxInt), on(math.MaxInt, 0)}, math.MaxInt, []int{0, math.MaxInt}, []int{0, math.MaxInt}},
		{[]api.Wait{on(0, 9), on(1, 0, 8)}, 1, []int{0, 8, 9}, nil},
		{idle(api.MaxProgs), 3, nil, nil},
		{nil, 0, nil, nil}, {[]api.Wait{}, 0, nil, nil},
	} {
		a, e := wait.Reach(c.l, c.o)
		b, f := wait.Circle(c.l, c.o)
		if !slices.Equal(a, c.reach) || e != api.OK || !slices.Equal(b, c.circle) || f != api.OK {
			t.Errorf("%d: %v, %v, %v, %v", i, a, e, b, f)
		}
	}
}

func TestRings(t *testing.T) {
	for n := 2; n <= api.MaxProgs; n++ {
		var all []int
		for i := range n {
			all = append(all, i)
		}
		for o := range n {
			open := ring(n)
			open[n-1].For = []int{n}
			a, _ := wait.Reach(ring(n), o)
			b, _ := wait.Circle(ring(n), o)
			c, _ := wait.Reach(open, o)
			d, _ := wait.Circle(open, o)
			if !slices.Equal(a, all) || !slices.Equal(b, all) || len(c) != n-o || len(d) != 0 {
				t.Errorf("%d, %d: %v, %v, %v, %v", n, o, a, b, c, d)
			}
		}
	}
}

// A long For: as many as nobody could hold against each other one by one.
func TestManyWaitedFor(t *testing.T) {
	var odd []int
	for i := range 200000 {
		odd = append(odd, 2*i+1)
	}
	l := []api.Wait{on(0, odd...), on(2, odd...), on(3, 0), on(4, odd...)}
	for _, o := range []int{0, 2, 3, 4} {
		a, e := wait.Reach(l, o)
		b, f := wait.Circle(l, o)
		round := []int{0, 3}
		if o == 2 || o == 4 {
			round = nil
		}
		if len(a) != len(odd)+1 || !slices.IsSorted(a) || e != api.OK || !slices.Equal(b, round) || f != api.OK {
			t.Errorf("%d: %d, %v, %v, %v", o, len(a), e, b, f)
		}
	}
}

// links tells of each number below 5 which ones it leads to, by going from all
// to all as often as needed.
func links(l []api.Wait) (to [5][5]bool) {
	for _, x := range l {
		for _, n := range x.For {
			to[x.Owner][n] = true
		}
	}
	for via := range 5 {
		for a := range 5 {
			for b := range 5 {
				to[a][b] = to[a][b] || to[a][via] && to[via][b]
			}
		}
	}
	return to
}

// every shows all lists of waits of the owners 0, 1 and 2 for each other and
// for 3 and 4.
func every(show func(l []api.Wait)) {
	for set := range 1 << 15 {
		var l []api.Wait
		for o := range 3 {
			x := api.Wait{Owner: o}
			for n := range 5 {
				if set>>(5*o+n)&1 == 1 {
					x.For = append(x.For, n)
				}
			}
			if len(x.For) > 0 {
				l = append(l, x)
			}
		}
		show(l)
	}
}

func TestEverySmallList(t *testing.T) {
	ages := []int{2, 5, 3, 9, 1}
	every(func(l []api.Wait) {
		if slices.ContainsFunc(l, func(x api.Wait) bool { return slices.Contains(x.For, x.Owner) }) {
			if e := ask(t, l, ages, 0); e.check != api.ErrForm || e.victim != api.ErrForm {
				t.Errorf("%v: %v", l, e)
			}
			return
		}
		to := links(l)
		for o := range 5 {
			var reach, circle []int
			want, wantErr := 0, api.ErrNone
			for n := range 5 {
				if to[o][n] {
					reach = append(reach, n)
				}
				if to[o][n] && to[n][o] {
					circle = append(circle, n)
					if wantErr != api.OK || ages[n] > ages[want] {
						want, wantErr = n, api.OK
					}
				}
			}
			a, e := wait.Reach(l, o)
			b, f := wait.Circle(l, o)
			n, g := wait.Victim(l, ages, o)
			if !slices.Equal(a, reach) || e != api.OK || !slices.Equal(b, circle) || f != api.OK || n != want || g != wantErr {
				t.Errorf("%v, %d: %v, %v, %v, %v, %d, %v", l, o, a, e, b, f, n, g)
			}
		}
	})
}

// P4.2

func TestVictim(t *testing.T) {
	l := some()
	for i, c := range []struct {
		ages []int
		o    int
		want int
		e    api.Errno
	}{
		{someAges(), 1, 1, api.OK}, {someAges(), 2, 1, api.OK}, {someAges(), 4, 1, api.OK},
		{[]int{3, 10, 20, 1, 15, 0, 0, 30, 0, 2}, 1, 2, api.OK},
		{[]int{3, 10, 15, 1, 20, 0, 0, 30, 0, 2}, 1, 4, api.OK},
		{[]int{math.MaxInt, math.MaxInt - 1, 1, 2, 3, 0, 0, 4, 0, 5}, 4, 1, api.OK},
		{someAges(), 0, 0, api.ErrNone}, {someAges(), 7, 0, api.ErrNone}, {someAges(), 3, 0, api.ErrNone}, {someAges(), 9, 0, api.ErrNone},
		{someAges(), 5, 0, api.ErrNone}, {someAges(), 99, 0, api.ErrNone}, {someAges(), -1, 0, api.ErrNone},
		{someAges(), math.MaxInt, 0, api.ErrNone}, {someAges(), math.MinInt, 0, api.ErrNone},
	} {
		if n, e := wait.Victim(l, c.ages, c.o); n != c.want || e != c.e {
			t.Errorf("%d: %d, %v", i, n, e)
		}
	}
}

// The example of the chapter.
func TestTwoThatWaitForEachOther(t *testing.T) {
	l := []api.Wait{on(0, 1), on(1, 0)}
	for o := range 2 {
		if n, e := wait.Victim(l, []int{1, 2}, o); n != 1 || e != api.OK {
			t.Errorf("%d: %d, %v", o, n, e)
		}
		if n, e := wait.Victim(l, []int{2, 1}, o); n != 0 || e != api.OK {
			t.Errorf("%d: %d, %v", o, n, e)
		}
	}
}

// 99 and -1 ask for the order: nobody leads back to them, which alone would be
// ErrNone.
func TestVictimOfAgesThatMayNotBe(t *testing.T) {
	with := func(at, age int) []int {
		ages := someAges()
		ages[at] = age
		return ages
	}
	for i, ages := range [][]int{
		nil, {}, {1}, someAges()[:9], someAges()[:4], {0, 0, 0, 0, 0, 0, 0, 0, 0, 0},
		with(0, 0), with(1, 0), with(2, 0), with(3, 0), with(4, 0), with(7, 0), with(9, 0),
		with(0, -1), with(1, -20), with(9, math.MinInt), with(5, -1), with(8, -1), append(someAges(), -1), append(someAges(), 0, 0, math.MinInt),
		with(1, 10), with(0, 30), with(6, 50), with(5, 20), with(5, 50), append(someAges(), 20), append(someAges(), 60, 60),
	} {
		for _, o := range []int{1, 0, 5, 99, -1} {
			if n, e := wait.Victim(some(), ages, o); n != 0 || e != api.ErrForm {
				t.Errorf("%d, %d: %d, %v", i, o, n, e)
			}
		}
	}
}

// Owners that wait for nobody need an age as well, and whoever is not in the
// waits needs none.
func TestWhoNeedsAnAge(t *testing.T) {
	for i, c := range []struct {
		l    []api.Wait
		ages []int
		e    api.Errno
	}{
		{nil, nil, api.ErrNone}, {nil, []int{0, 0}, api.ErrNone}, {nil, []int{4, 0, 2}, api.ErrNone},
		{nil, []int{-1}, api.ErrForm}, {nil, []int{3, 1, 3}, api.ErrForm},
		{idle(2), []int{1, 2}, api.ErrNone}, {idle(2), []int{1}, api.ErrForm}, {idle(2), []int{0, 2}, api.ErrForm}, {idle(2), []int{1, 2, 0, 0}, api.ErrNone},
		{[]api.Wait{on(1, 3)}, []int{0, 5, 0, 4}, api.ErrNone}, {[]api.Wait{on(1, 3)}, []int{0, 5, 0, 0}, api.ErrForm}, {[]api.Wait{on(1, 3)}, []int{0, 5, 7}, api.ErrForm},
		{[]api.Wait{on(0, math.MaxInt)}, []int{1, 2}, api.ErrForm}, {[]api.Wait{on(math.MaxInt)}, []int{1, 2}, api.ErrForm},
		{[]api.Wait{on(1, 3), on(3, 1)}, []int{0, 5, 0, 4}, api.OK}, {[]api.Wait{on(1, 3), on(3, 1)}, []int{0, 5, 0, 4, 5}, api.ErrForm},
	} {
		n, e := wait.Victim(c.l, c.ages, 1)
		if e != c.e || e == api.OK && n != 1 || e != api.OK && n != 0 {
			t.Errorf("%d: %d, %v", i, n, e)
		}
	}
}

func TestDie(t *testing.T) {
	ages := []int{5, 9, 0, 2, 7}
	for i, c := range []struct {
		o      int
		others []int
		want   bool
	}{
		{0, nil, false}, {0, []int{}, false}, {0, []int{1}, false}, {0, []int{3}, true}, {0, []int{1, 4}, false}, {0, []int{1, 3}, true}, {0, []int{3, 1}, true},
		{1, []int{0}, true}, {1, []int{4}, true}, {1, []int{0, 3, 4}, true}, {3, []int{0, 1, 4}, false}, {4, []int{1}, false}, {4, []int{1, 0}, true},
		{0, []int{0}, false}, {3, []int{3, 3}, false}, {0, []int{1, 1, 0, 4}, false}, {0, []int{4, 1, 4, 3, 3}, true},
	} {
		if is, e := wait.Die(ages, c.o, c.others); is != c.want || e != api.OK {
			t.Errorf("%d: %v, %v", i, is, e)
		}
	}
	if is, e := wait.Die([]int{math.MaxInt, 1}, 0, []int{1}); !is || e != api.OK {
		t.Errorf("%v, %v", is, e)
	}
}

// Each has an older one among the others that would be told, but for the form.
func TestDieOfAgesThatMayNotBe(t *testing.T) {
	ages := []int{5, 9, 0, 2}
	for i, c := range []struct {
		ages   []int
		o      int
		others []int
	}{
		{ages, 2, []int{3}}, {ages, 4, []int{3}}, {ages, -1, []int{3}}, {ages, math.MinInt, []int{3}}, {ages, math.MaxInt, []int{3}}, {ages, 2, nil},
		{ages, 0, []int{2}}, {ages, 0, []int{3, 2}}, {ages, 0, []int{2, 3}}, {ages, 0, []int{3, 4}}, {ages, 0, []int{3, -1}}, {ages, 0, []int{3, math.MaxInt}}, {ages, 0, []int{3, math.MinInt}},
		{[]int{5, -1, 2}, 0, []int{2}}, {[]int{5, -1, 2}, 0, []int{1}}, {[]int{-5, 2}, 0, []int{1}}, {[]int{5, 2, math.MinInt}, 0, nil},
		{[]int{5, 2, 5}, 0, []int{1}}, {[]int{5, 2, 7, 7}, 0, []int{1}}, {[]int{5, 2, 0, 7, 0, 2}, 0, []int{1}},
		{nil, 0, nil}, {[]int{}, 0, nil}, {[]int{0}, 0, nil}, {nil, -1, nil},
	} {
		if is, e := wait.Die(c.ages, c.o, c.others); is || e != api.ErrForm {
			t.Errorf("%d: %v, %v", i, is, e)
		}
	}
	if is, e := wait.Die([]int{5, 0, 0, 2, 0}, 0, []int{3}); !is || e != api.OK {
		t.Errorf("0 twice: %v, %v", is, e)
	}
}

// P4.3

func without(l []api.Wait, o int) []api.Wait {
	return slices.DeleteFunc(slices.Clone(l), func(x api.Wait) bool { return x.Owner == o })
}

// walk shows lists of waits of up to MaxProgs owners, and ages, by numbers that
// are the same in each run.
func walk(steps int, show func(l []api.Wait, ages []int)) {
	n := uint32(1)
	next := func(below int) int {
		n = n*1664525 + 1013904223
		return int(n>>16) % below
	}
	for range steps {
		owners := 2 + next(api.MaxProgs-1)
		var l []api.Wait
		for o := range owners {
			x := api.Wait{Owner: o}
			for other := range owners + 1 {
				if other != o && next(3) == 0 {
					x.For = append(x.For, other)
				}
			}
			l = append(l, x)
		}
		ages := upTo(owners + 1)
		for i := range ages {
			k := next(i + 1)
			ages[i], ages[k] = ages[k], ages[i]
		}
		show(l, ages)
	}
}

func TestWithoutTheVictimsNobodyLeadsBack(t *testing.T) {
	circles := 0
	walk(2000, func(l []api.Wait, ages []int) {
		for o := range ages {
			left := l
			for range len(l) {
				n, e := wait.Victim(left, ages, o)
				if e == api.ErrNone {
					break
				}
				round, _ := wait.Circle(left, o)
				if e != api.OK || !slices.Contains(round, n) || !slices.Contains(round, o) {
					t.Fatalf("%v, %v, %d: %d, %v, %v", left, ages, o, n, e, round)
				}
				circles++
				left = without(left, n)
			}
			reached, _ := wait.Reach(left, o)
			round, _ := wait.Circle(left, o)
			if slices.Contains(reached, o) || len(round) != 0 {
				t.Errorf("%v, %v, %d: %v, %v", left, ages, o, reached, round)
			}
		}
	})
	if circles < 1000 {
		t.Errorf("%d circles: the walk has too few of them", circles)
	}
}

// T5 leans on it: the oldest of a circle stays.
func TestTheOldestIsNoVictim(t *testing.T) {
	walk(500, func(l []api.Wait, ages []int) {
		for o := range ages {
			n, e := wait.Victim(l, ages, o)
			if e != api.OK {
				continue
			}
			round, _ := wait.Circle(l, o)
			for _, other := range round {
				if ages[other] > ages[n] {
					t.Errorf("%v, %v, %d: %d is younger than %d", l, ages, o, other, n)
				}
			}
			if is, e := wait.Die(ages, n, round); !is || e != api.OK {
				t.Errorf("%v, %v, %d: nobody is older than %d: %v", l, ages, o, n, e)
			}
		}
	})
}

// R2

// spare has room behind the end of each list, with a mark in it.
func spare(l ...int) []int { return append(slices.Clone(l), 77)[:len(l)] }

func roomy() []api.Wait {
	var l []api.Wait
	for _, x := range some() {
		l = append(l, on(x.Owner, spare(x.For...)...))
	}
	return append(l, on(77))[:len(l)]
}

func same(a, b []api.Wait) bool {
	return slices.EqualFunc(a, b, func(x, y api.Wait) bool { return x.Owner == y.Owner && slices.Equal(x.For, y.For) })
}

func marked(l []int) bool { return l[:len(l)+1][len(l)] == 77 }

func allMarked(l []api.Wait) bool {
	for _, x := range l {
		if !marked(x.For) {
			return false
		}
	}
	return l[:len(l)+1][len(l)].Owner == 77
}

func TestHandedInStaysAsItIs(t *testing.T) {
	l, ages, others := roomy(), spare(someAges()...), spare(4, 1, 9)
	wait.Check(l)
	for o := range 10 {
		wait.Reach(l, o)
		wait.Circle(l, o)
		wait.Victim(l, ages, o)
		wait.Die(ages, o, others)
	}
	if !same(l, some()) || !allMarked(l) {
		t.Errorf("%v", l)
	}
	if !slices.Equal(ages, someAges()) || !marked(ages) || !slices.Equal(others, []int{4, 1, 9}) || !marked(others) {
		t.Errorf("%v, %v", ages, others)
	}
}

func TestAnswersAreCopies(t *testing.T) {
	l := roomy()
	for o := range 10 {
		for i, give := range []func([]api.Wait, int) ([]int, api.Errno){wait.Reach, wait.Circle} {
			first, e := give(l, o)
			again, _ := give(l, o)
			was := slices.Clone(again)
			whole := first[:cap(first)]
			for k := range whole {
				whole[k] = 88
			}
			if e != api.OK || !slices.Equal(again, was) || !same(l, some()) || !allMarked(l) {
				t.Errorf("%d, %d: %v, %v, %v", o, i, again, l, e)
			}
		}
	}
}
