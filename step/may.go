package step

import (
	"slices"

	"quorum/api"
	"quorum/check"
	"quorum/lock"
	"quorum/pend"
	"quorum/table"
)

// The programs stand first: they bound how many sessions and tables are gone
// through behind them.
func mayBe(s api.State) bool {
	return check.Programs(s.Config, s.Programs) == api.OK && len(s.Sessions) == len(s.Programs) &&
		tablesMayBe(s) && agesMayBe(s) && sessionsMayBe(s) && locksMayBe(s) && commitsMayBe(s) && queueMayBe(s) && logMayBe(s) &&
		taken(s) <= s.Config.Versions
}

func tablesMayBe(s api.State) bool {
	if len(s.Tables) != s.Config.Tables {
		return false
	}
	return !slices.ContainsFunc(s.Tables, func(t api.Table) bool { return table.Check(t) != api.OK || isAbove(t, s.Clock) })
}

// isAbove is whether some version is; a chain's newest one stands first.
func isAbove(t api.Table, clock int) bool {
	return slices.ContainsFunc(t.Rows, func(c api.Chain) bool { return c.List[0].Commit > clock })
}

func hasBegun(x api.Session) bool { return x.Age != 0 }

func hasEnded(x api.Session) bool { return x.Status == api.IsDone || x.Status == api.IsUndone }

// As many ages as have begun, from 1 on and unlike, are all of them up to Ages.
func agesMayBe(s api.State) bool {
	var ages []int
	for _, x := range s.Sessions {
		if hasBegun(x) {
			ages = append(ages, x.Age)
		}
	}
	slices.Sort(ages)
	for at, age := range ages {
		if age != at+1 {
			return false
		}
	}
	return len(ages) == s.Ages
}

func sessionsMayBe(s api.State) bool {
	for n, x := range s.Sessions {
		if !sessionMayBe(x, s.Programs[n], s.Clock) || !pendMayBe(x, s.Config.Tables) {
			return false
		}
	}
	return true
}

func sessionMayBe(x api.Session, g api.Program, clock int) bool {
	switch {
	case x.Status < api.IsReady || x.Status > api.IsUndone, x.At < 0 || x.At > len(g.Ops), x.Snap < 0 || x.Snap > clock:
		return false
	case !hasBegun(x) && (x.Status != api.IsReady || x.At != 0):
		return false
	case g.Only && (x.Status == api.IsBlocked || x.Status == api.IsWaiting || x.Commit != 0):
		return false
	}
	return answersMayBe(x) && (!asksCommit(x) || x.At > 0 && g.Ops[x.At-1].Kind == api.OpCommit)
}

// asksCommit is of those whose last op was an OpCommit.
func asksCommit(x api.Session) bool { return x.Status == api.IsWaiting || x.Status == api.IsDone }

// Whoever is taken back, or rolled back behind its last op, was told so without
// going on.
func answersMayBe(x api.Session) bool {
	return len(x.Answers) == x.At || x.Status == api.IsUndone && len(x.Answers) == x.At+1
}

func pendMayBe(x api.Session, tables int) bool {
	if pend.Check(x.Pend) != api.OK || slices.ContainsFunc(x.Pend.List, func(w api.Write) bool { return w.Table >= tables }) {
		return false
	}
	return hasBegun(x) && !hasEnded(x) || len(x.Pend.List) == 0 && len(x.Pend.Marks) == 0
}

func locksMayBe(s api.State) bool {
	return lock.Check(s.Locks) == api.OK && !slices.ContainsFunc(s.Locks, func(x api.Lock) bool { return !mayHold(s, x.Owner) })
}

func mayHold(s api.State, n int) bool {
	return n < len(s.Sessions) && hasBegun(s.Sessions[n]) && !hasEnded(s.Sessions[n]) && !s.Programs[n].Only
}

// commitsMayBe is not of those that wait: their numbers are held to the queue.
func commitsMayBe(s api.State) bool {
	var told []int
	for _, x := range s.Sessions {
		switch {
		case x.Status == api.IsWaiting || x.Commit == 0:
		case x.Status != api.IsDone || x.Commit < 1 || x.Commit > s.Clock || slices.Contains(told, x.Commit):
			return false
		default:
			told = append(told, x.Commit)
		}
	}
	return true
}

// The numbers of those in the queue are unlike, so that none of them is there
// twice.
func queueMayBe(s api.State) bool {
	waiting := 0
	for _, x := range s.Sessions {
		if x.Status == api.IsWaiting {
			waiting++
		}
	}
	if len(s.Queue) != waiting {
		return false
	}
	for at, n := range s.Queue {
		if n < 0 || n >= len(s.Sessions) || s.Sessions[n].Status != api.IsWaiting || s.Sessions[n].Commit != s.Clock+at+1 {
			return false
		}
	}
	return true
}

// A log of all commits holds, within the bound (R1), far fewer than MaxNum, so
// that no Commit of it is above that.
func logMayBe(s api.State) bool {
	if s.Clock < 0 || len(s.Log)-len(s.Queue) != s.Clock {
		return false
	}
	for at, r := range s.Log {
		if r.Commit != at+1 || !writesMayBe(r.Writes) {
			return false
		}
	}
	for at, n := range s.Queue {
		if sum, _ := pend.Sum(s.Sessions[n].Pend); !slices.Equal(s.Log[s.Clock+at].Writes, sum) {
			return false
		}
	}
	return true
}

// writesMayBe asks pend part by part, since a record may have more writes than
// what is pending.
func writesMayBe(l []api.Write) bool {
	if len(l) > mostWrites() {
		return false
	}
	for part := range slices.Chunk(l, api.MaxOps) {
		if pend.Check(api.Pend{List: part}) != api.OK {
			return false
		}
	}
	return true
}

// taken is how many versions there are, those that may come counted in.
func taken(s api.State) int {
	all := 0
	for _, t := range s.Tables {
		n, _ := table.Count(t)
		all += n
	}
	for _, x := range s.Sessions {
		all += len(x.Pend.List)
	}
	return all
}
