package tape_test

import (
	"fmt"
	"slices"

	"quorum/api"
)

// The words of the chapter, gone through anew, to hold the calls against: by
// what comes last, from behind, where the calls go from the begin on.

func tapeMayBe(t api.Tape) bool {
	for _, s := range t.Sectors {
		if len(s) != 32 {
			return false
		}
	}
	for _, p := range t.Waits {
		if p.At < 0 || p.At >= len(t.Sectors) || len(p.Text) != 32 {
			return false
		}
	}
	return len(t.Sectors) >= 1 && len(t.Sectors) <= 512 && len(t.Waits) <= 2048
}

// lastOf is the text of the last put at sector i, or the one that is there.
func lastOf(puts []api.Put, i int, there string) string {
	for k := len(puts) - 1; k >= 0; k-- {
		if puts[k].At == i {
			return puts[k].Text
		}
	}
	return there
}

// laidOver has the texts of the puts on the sectors.
func laidOver(sectors []string, puts []api.Put) []string {
	var l []string
	for i, s := range sectors {
		l = append(l, lastOf(puts, i, s))
	}
	return l
}

func read(t api.Tape, i int) (string, api.Errno) {
	if !tapeMayBe(t) {
		return "", api.ErrForm
	}
	if i < 0 || i >= len(t.Sectors) {
		return "", api.ErrNone
	}
	return lastOf(t.Waits, i, t.Sectors[i]), api.OK
}

// wrong is the error of the first step that is wrong.
func wrong(t api.Tape, l []api.Do) api.Errno {
	wait := len(t.Waits)
	for _, d := range l {
		wait++
		switch {
		case d.Sync:
			wait = 0
		case d.Put.At < 0 || d.Put.At >= len(t.Sectors):
			return api.ErrNone
		case len(d.Put.Text) != 32:
			return api.ErrForm
		case wait > 2048:
			return api.ErrLimit
		}
	}
	return api.OK
}

// played cuts the steps at the last Sync: what was put ahead of it is there,
// what comes behind it waits.
func played(t api.Tape, n int, l []api.Do) (api.Tape, api.Errno) {
	if !tapeMayBe(t) || n < -1 {
		return api.Tape{}, api.ErrForm
	}
	if n != -1 && n < len(l) {
		l = l[:n]
	}
	if e := wrong(t, l); e != api.OK {
		return api.Tape{}, e
	}
	puts, cut := slices.Clone(t.Waits), 0
	for _, d := range l {
		if d.Sync {
			cut = len(puts)
		} else {
			puts = append(puts, d.Put)
		}
	}
	return api.Tape{Sectors: laidOver(t.Sectors, puts[:cut]), Waits: puts[cut:]}, api.OK
}

func crashed(t api.Tape, l []int) (api.Tape, api.Errno) {
	if !tapeMayBe(t) {
		return api.Tape{}, api.ErrForm
	}
	var stay []api.Put
	for len(l) > 0 && len(l) < len(t.Waits) {
		l = slices.Concat(l, l)
	}
	for k, p := range t.Waits {
		if len(l) > 0 && uint(l[k])&1 == 1 {
			stay = append(stay, p)
		}
	}
	return api.Tape{Sectors: laidOver(t.Sectors, stay)}, api.OK
}

func same(a, b api.Tape) bool {
	return slices.Equal(a.Sectors, b.Sectors) && slices.Equal(a.Waits, b.Waits)
}

func isZero(t api.Tape) bool { return len(t.Sectors) == 0 && len(t.Waits) == 0 }

// short tells the begin of things that may be long.
func short(things ...any) string {
	s := ""
	for _, x := range things {
		s += fmt.Sprintf(" %.600s", fmt.Sprintf("%#v", x))
	}
	return s
}
