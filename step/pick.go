package step

import (
	"slices"

	"quorum/alone"
	"quorum/api"
	"quorum/lock"
	"quorum/pend"
	"quorum/plan"
	"quorum/table"
	"quorum/view"
	"quorum/wait"
)

func pick(s *api.State, n int) {
	x := &s.Sessions[n]
	if x.Status != api.IsReady && x.Status != api.IsBlocked {
		return
	}
	if !hasBegun(*x) {
		begin(s, n)
	}
	switch {
	case s.Programs[n].Only:
		read(s, n)
	case hasLocks(s, n):
		x.Status = api.IsReady
		act(s, n)
	}
}

func begin(s *api.State, n int) {
	s.Ages++
	s.Sessions[n].Age = s.Ages
	if s.Programs[n].Only {
		s.Sessions[n].Snap = s.Clock
	}
}

// opOf is the op that comes next: behind the last one it is rolled back.
func opOf(s *api.State, n int) api.Op {
	ops := s.Programs[n].Ops
	if s.Sessions[n].At == len(ops) {
		return api.Op{Kind: api.OpRollback}
	}
	return ops[s.Sessions[n].At]
}

func read(s *api.State, n int) {
	x, o := s.Sessions[n], opOf(s, n)
	p, a, _ := alone.Do(maps(s.Tables, x.Snap), x.Pend, o, true)
	goOn(s, n, p, a)
	switch o.Kind {
	case api.OpCommit:
		end(s, n, api.IsDone)
	case api.OpRollback:
		end(s, n, api.IsUndone)
	}
}

// act is of one that has its locks. Whether there is room is asked with the
// answer at hand, since only that tells whether the op writes.
func act(s *api.State, n int) {
	x, o := s.Sessions[n], opOf(s, n)
	p, a, _ := alone.Do(maps(s.Tables, s.Clock), x.Pend, o, false)
	if len(p.List) > len(x.Pend.List) && taken(*s) >= s.Config.Versions {
		takeBack(s, n, api.WhyRoom)
		return
	}
	goOn(s, n, p, a)
	switch o.Kind {
	case api.OpCommit:
		commit(s, n)
	case api.OpRollback:
		end(s, n, api.IsUndone)
	}
}

func maps(l []api.Table, n int) [][]api.Row {
	m := make([][]api.Row, len(l))
	for t := range l {
		m[t], _ = table.Map(l[t], n)
	}
	return m
}

// goOn lays an answer down; behind its last op a program stays where it is.
func goOn(s *api.State, n int, p api.Pend, a api.Answer) {
	x := &s.Sessions[n]
	x.Pend, x.Answers = p, append(x.Answers, a)
	x.At = min(x.At+1, len(s.Programs[n].Ops))
}

func end(s *api.State, n, status int) {
	s.Sessions[n].Status = status
	s.Sessions[n].Pend = api.Pend{}
	s.Locks, _ = lock.Free(s.Locks, n)
}

func takeBack(s *api.State, n, why int) {
	x := &s.Sessions[n]
	x.Answers = append(x.Answers, api.Answer{Err: int(api.ErrAbort), N: why})
	end(s, n, api.IsUndone)
}

// commit is behind the answer to an OpCommit, to which the number comes.
func commit(s *api.State, n int) {
	x := &s.Sessions[n]
	told := &x.Answers[len(x.Answers)-1]
	if len(x.Pend.List) == 0 {
		told.N = s.Clock
		end(s, n, api.IsDone)
		return
	}
	sum, _ := pend.Sum(x.Pend)
	x.Status, x.Commit = api.IsWaiting, s.Clock+len(s.Queue)+1
	told.N = x.Commit
	s.Queue = append(s.Queue, n)
	s.Log = append(s.Log, api.Record{Commit: x.Commit, Writes: sum})
	if len(s.Queue) >= s.Config.Group {
		flush(s)
	}
}

// What is pending was counted with the versions, so that there is room for it.
func flush(s *api.State) {
	for _, n := range s.Queue {
		x := s.Sessions[n]
		s.Tables, _ = view.Apply(s.Tables, x.Pend, x.Commit)
		s.Clock = x.Commit
		end(s, n, api.IsDone)
	}
	s.Queue = nil
	least := leastSeen(*s)
	for t := range s.Tables {
		s.Tables[t], _ = table.Purge(s.Tables[t], least)
	}
}

// leastSeen is the earliest commit at which somebody still sees the tables.
func leastSeen(s api.State) int {
	least := s.Clock
	for n, x := range s.Sessions {
		if s.Programs[n].Only && hasBegun(x) && !hasEnded(x) {
			least = min(least, x.Snap)
		}
	}
	return least
}

// hasLocks is whether n has all locks that its op needs, now that it was picked;
// if not, it is blocked, or was taken back.
func hasLocks(s *api.State, n int) bool {
	for _, x := range locksOf(s, n) {
		if covered, _ := lock.Covers(s.Locks, x); covered {
			continue
		}
		if !isFree(s, x) {
			return false
		}
		if len(s.Locks) >= s.Config.Locks && !isRaised(s.Locks, x) {
			takeBack(s, n, api.WhyLocks)
			return false
		}
		s.Locks, _ = lock.Take(s.Locks, x)
	}
	return true
}

func locksOf(s *api.State, n int) []api.Lock {
	l, _ := plan.Locks(opOf(s, n), s.Sessions[n].Pend, n)
	return l
}

// isRaised is whether a lock is there that x would raise.
func isRaised(l []api.Lock, x api.Lock) bool {
	return slices.ContainsFunc(l, func(held api.Lock) bool {
		return held.Owner == x.Owner && held.Table == x.Table && held.Keys == x.Keys
	})
}

// isFree is whether nobody is in the way of x; if not, its owner is blocked, or
// was taken back. With each turn somebody is taken back, so that they come to an
// end.
func isFree(s *api.State, x api.Lock) bool {
	for {
		others, _ := lock.Block(s.Locks, x)
		if len(others) == 0 {
			return true
		}
		n, why := loser(s, x.Owner, others)
		if why == api.WhyNone {
			s.Sessions[x.Owner].Status = api.IsBlocked
			return false
		}
		takeBack(s, n, why)
		if n == x.Owner {
			return false
		}
	}
}

// loser is who is to be taken back, where others are in n's way, and why:
// WhyNone, if nobody is.
func loser(s *api.State, n int, others []int) (who, why int) {
	ages := make([]int, len(s.Sessions))
	for i, x := range s.Sessions {
		ages[i] = x.Age
	}
	if s.Config.Policy == api.PolicyDie {
		if die, _ := wait.Die(ages, n, others); die {
			return n, api.WhyDie
		}
		return 0, api.WhyNone
	}
	victim, e := wait.Victim(waits(s, n, others), ages, n)
	if e != api.OK {
		return 0, api.WhyNone
	}
	return victim, api.WhyCircle
}

// waits are those of n, which others are in the way of, and of all that are
// blocked.
func waits(s *api.State, n int, others []int) []api.Wait {
	var l []api.Wait
	for i, x := range s.Sessions {
		switch {
		case i == n:
			l = append(l, api.Wait{Owner: n, For: others})
		case x.Status == api.IsBlocked:
			l = append(l, api.Wait{Owner: i, For: inTheWay(s, i)})
		}
	}
	return l
}

// inTheWay are those that one that is blocked waits for. As it was blocked they
// may have been others: they are asked for anew.
func inTheWay(s *api.State, n int) []int {
	for _, x := range locksOf(s, n) {
		if covered, _ := lock.Covers(s.Locks, x); !covered {
			others, _ := lock.Block(s.Locks, x)
			return others
		}
	}
	return nil
}
