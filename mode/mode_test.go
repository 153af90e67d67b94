package mode_test

import (
	"math"
	"strings"
	"sync"
	"testing"

	"quorum/api"
	"quorum/mode"
)

func modes() []int { return []int{api.ModeR, api.ModeW, api.ModeC} }

func badModes() []int {
	return []int{api.ModeNone, -1, -api.ModeR, -api.ModeC, api.ModeC + 1, api.ModeC + 2, 256 + api.ModeR, 1<<32 + api.ModeR, math.MinInt, math.MaxInt}
}

// R1, and the ways. It stands first, so that the names are laid while many ask
// for them, some by Name and some by Of.
func TestManyAtOnce(t *testing.T) {
	const many = 32
	var told [many]string
	var found [many]int
	var group sync.WaitGroup
	for i := range many {
		group.Go(func() {
			if i%2 == 0 {
				told[i], _ = mode.Name(api.ModeC)
				found[i], _ = mode.Of("write")
			} else {
				found[i], _ = mode.Of("write")
				told[i], _ = mode.Name(api.ModeC)
			}
		})
	}
	group.Wait()
	for i := range many {
		if told[i] != "certify" || found[i] != api.ModeW {
			t.Errorf("%d: %q, %d", i, told[i], found[i])
		}
	}
}

// P2.1

func TestCheck(t *testing.T) {
	for _, m := range modes() {
		if e := mode.Check(m); e != api.OK {
			t.Errorf("%d: %v", m, e)
		}
	}
	for _, m := range badModes() {
		if e := mode.Check(m); e != api.ErrForm {
			t.Errorf("%d: %v", m, e)
		}
	}
}

func TestTwo(t *testing.T) {
	for _, c := range []struct {
		a, b    int
		fit     bool
		greater int
	}{
		{api.ModeR, api.ModeR, true, api.ModeR},
		{api.ModeR, api.ModeW, true, api.ModeW},
		{api.ModeR, api.ModeC, false, api.ModeC},
		{api.ModeW, api.ModeR, true, api.ModeW},
		{api.ModeW, api.ModeW, false, api.ModeW},
		{api.ModeW, api.ModeC, false, api.ModeC},
		{api.ModeC, api.ModeR, false, api.ModeC},
		{api.ModeC, api.ModeW, false, api.ModeC},
		{api.ModeC, api.ModeC, false, api.ModeC},
	} {
		if is, e := mode.Fit(c.a, c.b); is != c.fit || e != api.OK {
			t.Errorf("Fit(%d, %d): %v, %v", c.a, c.b, is, e)
		}
		if m, e := mode.Max(c.a, c.b); m != c.greater || e != api.OK {
			t.Errorf("Max(%d, %d): %d, %v", c.a, c.b, m, e)
		}
	}
}

func TestTwoBad(t *testing.T) {
	for _, bad := range badModes() {
		for _, other := range append(modes(), badModes()...) {
			for _, x := range [][2]int{{bad, other}, {other, bad}} {
				if is, e := mode.Fit(x[0], x[1]); is || e != api.ErrForm {
					t.Errorf("Fit(%v): %v, %v", x, is, e)
				}
				if m, e := mode.Max(x[0], x[1]); m != 0 || e != api.ErrForm {
					t.Errorf("Max(%v): %d, %v", x, m, e)
				}
			}
		}
	}
}

func TestName(t *testing.T) {
	for m, want := range map[int]string{api.ModeR: "read", api.ModeW: "write", api.ModeC: "certify"} {
		if s, e := mode.Name(m); s != want || e != api.OK {
			t.Errorf("%d: %q, %v", m, s, e)
		}
		if got, e := mode.Of(want); got != m || e != api.OK {
			t.Errorf("%q: %d, %v", want, got, e)
		}
	}
}

func TestNameBad(t *testing.T) {
	for _, m := range badModes() {
		if s, e := mode.Name(m); s != "" || e != api.ErrForm {
			t.Errorf("%d: %q, %v", m, s, e)
		}
	}
}

func TestOfBad(t *testing.T) {
	for _, s := range []string{
		"", "none", "Read", "READ", "rea", "reads", " read", "read ", "read\x00", "\x00", "readwrite",
		"Write", "writ", "writes", "rite", "Certify", "certif", "certifyy", "ertify",
		"R", "W", "C", "1", "2", "3", "\xff", strings.Repeat("read", 1000),
	} {
		if m, e := mode.Of(s); m != 0 || e != api.ErrNone {
			t.Errorf("%q: %d, %v", s, m, e)
		}
	}
}

// R1: the same call tells the same, whatever was told in between.
func TestSameAgain(t *testing.T) {
	for range 3 {
		for _, m := range modes() {
			s, _ := mode.Name(m)
			if got, e := mode.Of(s); got != m || e != api.OK {
				t.Errorf("%d: %q, %d, %v", m, s, got, e)
			}
			mode.Name(m + api.ModeC)
			mode.Of(s + s)
		}
	}
}

// P2.2

func TestLesserModeGoesWithAllThatAGreaterOneGoesWith(t *testing.T) {
	for _, greater := range modes() {
		for _, lesser := range modes() {
			if m, e := mode.Max(greater, lesser); m != greater || e != api.OK {
				continue
			}
			for _, other := range modes() {
				fit, _ := mode.Fit(greater, other)
				if is, e := mode.Fit(lesser, other); fit && !is || e != api.OK {
					t.Errorf("%d goes with %d, %d does not: %v", other, greater, lesser, e)
				}
			}
		}
	}
}

func TestFitIsAlikeFromBothSides(t *testing.T) {
	for _, a := range modes() {
		for _, b := range modes() {
			is, _ := mode.Fit(a, b)
			if back, e := mode.Fit(b, a); back != is || e != api.OK {
				t.Errorf("%d, %d: %v, %v, %v", a, b, is, back, e)
			}
		}
	}
}
