package order_test

import (
	"fmt"
	"maps"
	"slices"
	"testing"

	"quorum/api"
	"quorum/order"
)

// The words of the chapter, and of chapter 13, gone through anew, to hold the
// calls against: places are gone through by their numbers, programs run on maps of
// Go, of which a savepoint is a copy.

func text(x ...any) string { return fmt.Sprint(x...) }

// numberOf is behind which commit one that is done counts.
func numberOf(s api.State, n int) int {
	x := s.Sessions[n]
	if x.Commit > 0 {
		return x.Commit
	}
	if s.Programs[n].Only {
		return x.Snap
	}
	return x.Answers[len(x.Answers)-1].N
}

func serialOf(s api.State) []int {
	var numbers, l []int
	for n, x := range s.Sessions {
		if x.Status == api.IsDone {
			numbers = append(numbers, numberOf(s, n))
		}
	}
	slices.Sort(numbers)
	for _, number := range slices.Compact(numbers) {
		for n, x := range s.Sessions {
			if x.Status == api.IsDone && x.Commit == number && number > 0 {
				l = append(l, n)
			}
		}
		for age := 1; age <= s.Ages; age++ {
			for n, x := range s.Sessions {
				if x.Status == api.IsDone && x.Commit == 0 && x.Age == age && numberOf(s, n) == number {
					l = append(l, n)
				}
			}
		}
	}
	return l
}

// plain is a map: what is there of each table.
type plain []map[string]string

func plainOf(m [][]api.Row) plain {
	var p plain
	for _, rows := range m {
		x := map[string]string{}
		for _, r := range rows {
			x[r.Key] = r.Value
		}
		p = append(p, x)
	}
	return p
}

func (p plain) copied() plain {
	var x plain
	for _, m := range p {
		x = append(x, maps.Clone(m))
	}
	return x
}

// rows are all of the map.
func (p plain) rows() [][]api.Row {
	var all [][]api.Row
	for _, m := range p {
		var l []api.Row
		for _, k := range slices.Sorted(maps.Keys(m)) {
			l = append(l, api.Row{Key: k, Value: m[k]})
		}
		all = append(all, l)
	}
	return all
}

// solo is a program that runs alone.
type solo struct {
	now   plain
	marks []plain
	only  bool
}

// ran is what a program tells that runs on a map, and the map behind it.
func ran(was plain, g api.Program) ([]api.Answer, plain) {
	x := solo{now: was.copied(), only: g.Only}
	var told []api.Answer
	for _, o := range g.Ops {
		told = append(told, x.does(o))
		if o.Kind == api.OpCommit {
			return told, x.now
		}
		if o.Kind == api.OpRollback {
			return told, was
		}
	}
	return told, was
}

func err(e api.Errno) api.Answer { return api.Answer{Err: int(e)} }

func (x *solo) does(o api.Op) api.Answer {
	m := x.now[o.Table]
	v, is := m[o.Key]
	writes := o.Kind == api.OpInsert || o.Kind == api.OpPut || o.Kind == api.OpDelete
	switch {
	case x.only && (writes || o.Kind == api.OpHold || o.Kind == api.OpTable):
		return err(api.ErrOnly)
	case o.Kind == api.OpScan:
		return x.scans(o)
	case o.Kind == api.OpSave:
		if len(x.marks) == 6 {
			return err(api.ErrLimit)
		}
		x.marks = append(x.marks, x.now.copied())
		return api.Answer{N: len(x.marks) - 1}
	case o.Kind == api.OpReturn || o.Kind == api.OpRelease:
		return x.goesBack(o)
	case o.Kind == api.OpInsert && is:
		return err(api.ErrThere)
	case o.Kind == api.OpInsert || o.Kind == api.OpPut:
		m[o.Key] = o.Value
	case (o.Kind == api.OpDelete || o.Kind == api.OpGet || o.Kind == api.OpHold) && !is:
		return err(api.ErrNone)
	case o.Kind == api.OpDelete:
		delete(m, o.Key)
	case o.Kind == api.OpGet || o.Kind == api.OpHold:
		return api.Answer{Value: v}
	}
	return api.Answer{}
}

func (x *solo) goesBack(o api.Op) api.Answer {
	if o.N >= len(x.marks) {
		return err(api.ErrMark)
	}
	if o.Kind == api.OpRelease {
		x.marks = x.marks[:o.N]
		return api.Answer{}
	}
	x.now = x.marks[o.N].copied()
	x.marks = x.marks[:o.N+1]
	return api.Answer{}
}

func (x *solo) scans(o api.Op) api.Answer {
	var l []api.Row
	for _, r := range x.now.rows()[o.Table] {
		if r.Key >= o.Keys.Low && (o.Keys.Top || r.Key < o.Keys.High) {
			l = append(l, r)
		}
	}
	if o.Back {
		slices.Reverse(l)
	}
	return api.Answer{Rows: l[:min(o.N, len(l))]}
}

// unnumbered are answers without what commits told of their numbers.
func unnumbered(l []api.Answer, g api.Program) []api.Answer {
	l = slices.Clone(l)
	for at := range l {
		if g.Ops[at].Kind == api.OpCommit {
			l[at].N = 0
		}
	}
	return l
}

func fitsOf(s api.State, m [][]api.Row) bool {
	now := plainOf(m)
	for _, n := range serialOf(s) {
		told, next := ran(now, s.Programs[n])
		if text(unnumbered(told, s.Programs[n])) != text(unnumbered(s.Sessions[n].Answers, s.Programs[n])) {
			return false
		}
		now = next
	}
	return text(now.rows()) == text(mapOf(s))
}

// mapOf is, of each chain, the first version up to Clock.
func mapOf(s api.State) [][]api.Row {
	m := make([][]api.Row, len(s.Tables))
	for t, x := range s.Tables {
		for _, c := range x.Rows {
			for _, v := range c.List {
				if v.Commit > s.Clock {
					continue
				}
				if !v.Gone {
					m[t] = append(m[t], api.Row{Key: c.Key, Value: v.Value})
				}
				break
			}
		}
	}
	return m
}

func openOf(s api.State) int {
	n := len(s.Sessions)
	for _, x := range s.Sessions {
		if x.Status > api.IsWaiting {
			n--
		}
	}
	return n
}

// held holds all calls of a state that may be, and a map, against the words; it
// tells whether it fits.
func held(t *testing.T, s api.State, m [][]api.Row) bool {
	t.Helper()
	was := text(s, m)
	l, e := order.Serial(s)
	if want := serialOf(s); e != api.OK || !slices.Equal(l, want) {
		t.Fatalf("Serial of %s: %v, %v, not %v", was, e, l, want)
	}
	is, e := order.Fits(s, m)
	if want := fitsOf(s, m); e != api.OK || is != want {
		t.Fatalf("Fits of %s: %v, %t, not %t", was, e, is, want)
	}
	x, e := order.Map(s)
	if want := mapOf(s); e != api.OK || text(x) != text(want) || len(x) != len(want) {
		t.Fatalf("Map of %s: %v, %v, not %v", was, e, x, want)
	}
	n, e := order.Open(s)
	if want := openOf(s); e != api.OK || n != want {
		t.Fatalf("Open of %s: %v, %d, not %d", was, e, n, want)
	}
	if text(s, m) != was {
		t.Fatalf("%s became %s", was, text(s, m))
	}
	return is
}
