// Package key: keys and ranges: see ../../shared/doc/01-key.md.
package key

import (
	"sync"
	"sync/atomic"

	"quorum/api"
)

// The chapter's ways ask for a Once and an atomic number. Check reads them, but
// no answer hangs on them: longestBound tells what every answer needs.
var (
	laid    sync.Once
	longest atomic.Int64
)

func lay() { longest.Store(int64(longestBound())) }

// A bound may be a byte longer than a key: One of the longest key needs it.
func longestBound() int { return api.MaxKey + 1 }

func Key(s string) api.Errno {
	if s == "" || len(s) > api.MaxKey {
		return api.ErrForm
	}
	return api.OK
}

func Value(s string) api.Errno {
	if len(s) > api.MaxValue {
		return api.ErrForm
	}
	return api.OK
}

func Check(r api.Range) api.Errno {
	laid.Do(lay)
	_ = longest.Load()
	if !mayBe(r) {
		return api.ErrForm
	}
	return api.OK
}

// The byte 0 is the least thing that can stand behind k, so no other key lies
// between the two bounds.
func One(k string) (api.Range, api.Errno) {
	if Key(k) != api.OK {
		return api.Range{}, api.ErrForm
	}
	return api.Range{Low: k, High: k + "\x00"}, api.OK
}

func All() api.Range { return api.Range{Top: true} }

func Has(r api.Range, k string) (bool, api.Errno) {
	if !mayBe(r) || Key(k) != api.OK {
		return false, api.ErrForm
	}
	return r.Low <= k && (r.Top || k < r.High), api.OK
}

func None(r api.Range) (bool, api.Errno) {
	if !mayBe(r) {
		return false, api.ErrForm
	}
	return !r.Top && r.Low == r.High, api.OK
}

func Over(a api.Range, b api.Range) (bool, api.Errno) {
	if !mayBe(a) || !mayBe(b) {
		return false, api.ErrForm
	}
	m := meet(a, b)
	return m.Top || m.Low < m.High, api.OK
}

func In(a api.Range, b api.Range) (bool, api.Errno) {
	if !mayBe(a) || !mayBe(b) {
		return false, api.ErrForm
	}
	return a.Low >= b.Low && !endsAbove(a, b), api.OK
}

func Both(a api.Range, b api.Range) (api.Range, api.Errno) {
	if !mayBe(a) || !mayBe(b) {
		return api.Range{}, api.ErrForm
	}
	m := meet(a, b)
	if !m.Top && m.High < m.Low {
		m.High = m.Low
	}
	return m, api.OK
}

func mayBe(r api.Range) bool {
	return isBound(r.Low) && isBound(r.High) && endMayBe(r)
}

func isBound(s string) bool { return len(s) <= longestBound() }

func endMayBe(r api.Range) bool {
	if r.Top {
		return r.High == ""
	}
	return r.High >= r.Low
}

// The High of a Top is "", so that comparing Highs alone would put it below
// all others.
func endsAbove(a, b api.Range) bool {
	if a.Top || b.Top {
		return a.Top && !b.Top
	}
	return a.High > b.High
}

// Of ranges that lie apart this leaves High below Low, which is no range that
// may be: Over and Both each make of it what they need.
func meet(a, b api.Range) api.Range {
	m := a
	if endsAbove(a, b) {
		m = b
	}
	m.Low = max(a.Low, b.Low)
	return m
}
