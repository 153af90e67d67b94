package key_test

import (
	"strings"
	"testing"

	"quorum/api"
	"quorum/key"
)

func to(low, high string) api.Range { return api.Range{Low: low, High: high} }

func top(low string) api.Range { return api.Range{Low: low, Top: true} }

func text(n int) string { return strings.Repeat("k", n) }

// bounds: neighbours of each other, on purpose, up to the longest one.
func bounds() []string {
	return []string{"", "\x00", "\x00\x00", "Z", "a", "a\x00", "a\x00\x00", "aa", "ab", "b", text(api.MaxKey), text(api.MaxKey) + "\x00", text(api.MaxKey + 1), "\x80", "\xff", strings.Repeat("\xff", api.MaxKey+1)}
}

func keys() []string {
	var l []string
	for _, s := range bounds() {
		if s != "" && len(s) <= api.MaxKey {
			l = append(l, s)
		}
	}
	return l
}

func goodRanges() []api.Range {
	var l []api.Range
	for _, low := range bounds() {
		l = append(l, top(low))
		for _, high := range bounds() {
			if low <= high {
				l = append(l, to(low, high))
			}
		}
	}
	return l
}

func badRanges() []api.Range {
	return []api.Range{
		to("b", "a"), to("aa", "a"), to("a\x00", "a"), to("a", ""), to("a", "Z"), to("\xff", "\x7f"),
		{Low: "a", High: "b", Top: true}, {High: "\x00", Top: true}, {Low: "b", High: "a", Top: true}, {Low: "a", High: "a", Top: true},
		top(text(api.MaxKey + 2)), to(text(api.MaxKey+2), text(api.MaxKey+2)), to("", text(api.MaxKey+2)),
		to(text(api.MaxKey+2), "l"), {High: text(api.MaxKey + 2), Top: true},
		to("", text(1000)), top(text(1000)),
	}
}

// holds is the document's word of what is in a range, without a look at its form.
func holds(r api.Range, k string) bool {
	if strings.Compare(k, r.Low) < 0 {
		return false
	}
	return r.Top || strings.Compare(k, r.High) < 0
}

// P1.1

func TestKeyLengths(t *testing.T) {
	for n := range api.MaxKey + 20 {
		want := api.OK
		if n < 1 || n > api.MaxKey {
			want = api.ErrForm
		}
		if e := key.Key(text(n)); e != want {
			t.Errorf("%d bytes: %v, not %v", n, e, want)
		}
	}
}

func TestKeyCountsBytes(t *testing.T) {
	two := "\u00e9"
	if e := key.Key(strings.Repeat(two, api.MaxKey/2)); e != api.OK {
		t.Errorf("MaxKey bytes: %v", e)
	}
	if e := key.Key(strings.Repeat(two, api.MaxKey/2+1)); e != api.ErrForm {
		t.Errorf("more than MaxKey bytes: %v", e)
	}
	for _, s := range []string{"\x00", "\xff", " ", "\n"} {
		if e := key.Key(s); e != api.OK {
			t.Errorf("%q: %v", s, e)
		}
	}
}

func TestValueLengths(t *testing.T) {
	for n := range api.MaxValue + 20 {
		want := api.OK
		if n > api.MaxValue {
			want = api.ErrForm
		}
		if e := key.Value(text(n)); e != want {
			t.Errorf("%d bytes: %v, not %v", n, e, want)
		}
	}
	if e := key.Value(strings.Repeat("\u00e9", api.MaxValue/2+1)); e != api.ErrForm {
		t.Errorf("more than MaxValue bytes: %v", e)
	}
}

func TestCheckGood(t *testing.T) {
	for _, r := range goodRanges() {
		if e := key.Check(r); e != api.OK {
			t.Errorf("%#v: %v", r, e)
		}
	}
}

func TestCheckBad(t *testing.T) {
	for _, r := range badRanges() {
		if e := key.Check(r); e != api.ErrForm {
			t.Errorf("%#v: %v", r, e)
		}
	}
}

func TestCheckBoundLengths(t *testing.T) {
	for n := range api.MaxKey + 20 {
		want := api.OK
		if n > api.MaxKey+1 {
			want = api.ErrForm
		}
		s := text(n)
		for _, r := range []api.Range{top(s), to(s, s), to("", s)} {
			if e := key.Check(r); e != want {
				t.Errorf("%#v: %v, not %v", r, e, want)
			}
		}
	}
}

func TestOne(t *testing.T) {
	for _, k := range keys() {
		r, e := key.One(k)
		if e != api.OK || r != to(k, k+"\x00") || key.Check(r) != api.OK {
			t.Errorf("%q: %#v, %v", k, r, e)
		}
		for _, x := range keys() {
			if is, e := key.Has(r, x); is != (x == k) || e != api.OK {
				t.Errorf("One(%q) has %q: %v, %v", k, x, is, e)
			}
		}
	}
}

func TestOneBad(t *testing.T) {
	for _, k := range []string{"", text(api.MaxKey + 1), text(1000)} {
		if r, e := key.One(k); r != (api.Range{}) || e != api.ErrForm {
			t.Errorf("%q: %#v, %v", k, r, e)
		}
	}
}

func TestAll(t *testing.T) {
	r := key.All()
	if r != top("") || key.Check(r) != api.OK {
		t.Fatalf("%#v", r)
	}
	for _, k := range keys() {
		if is, e := key.Has(r, k); !is || e != api.OK {
			t.Errorf("%q: %v, %v", k, is, e)
		}
	}
	r.Low, r.Top = "x", false
	if again := key.All(); again != top("") {
		t.Errorf("written into: %#v", again)
	}
}

func TestHas(t *testing.T) {
	for _, r := range goodRanges() {
		for _, k := range keys() {
			if is, e := key.Has(r, k); is != holds(r, k) || e != api.OK {
				t.Errorf("%#v has %q: %v, %v", r, k, is, e)
			}
		}
	}
}

func TestHasEdges(t *testing.T) {
	for i, c := range []struct {
		r    api.Range
		k    string
		want bool
	}{
		{to("b", "d"), "b", true}, {to("b", "d"), "cz", true}, {to("b", "d"), "d", false}, {to("b", "d"), "a", false},
		{to("b", "b"), "b", false}, {top("b"), "b", true}, {top("b"), "a\xff", false}, {top("b"), "\xff", true},
		{to("a", "aa"), "a\x00", true}, {to("a", "a\x00"), "a\x00", false}, {to("Z", "a"), "a", false}, {to("\x7f", "\xff"), "\x80", true},
		{api.Range{}, "\x00", false},
	} {
		if is, e := key.Has(c.r, c.k); is != c.want || e != api.OK {
			t.Errorf("%d: %v, %v", i, is, e)
		}
	}
}

func TestHasBad(t *testing.T) {
	for _, r := range badRanges() {
		for _, k := range []string{"a", "b", "k", "\xff", ""} {
			if is, e := key.Has(r, k); is || e != api.ErrForm {
				t.Errorf("%#v has %q: %v, %v", r, k, is, e)
			}
		}
	}
	for _, k := range []string{"", text(api.MaxKey + 1), text(1000)} {
		for _, r := range []api.Range{top(""), to("", "z"), {}} {
			if is, e := key.Has(r, k); is || e != api.ErrForm {
				t.Errorf("%#v has %q: %v, %v", r, k, is, e)
			}
		}
	}
}

func TestNone(t *testing.T) {
	for _, r := range goodRanges() {
		want := r.Low == r.High && !r.Top
		if is, e := key.None(r); is != want || e != api.OK {
			t.Errorf("%#v: %v, %v", r, is, e)
		}
	}
	if is, _ := key.None(key.All()); is {
		t.Errorf("All, whose Low is its High, has nothing")
	}
	if is, _ := key.None(api.Range{}); !is {
		t.Errorf("the zero value has something")
	}
}

func TestNoneBad(t *testing.T) {
	for _, r := range badRanges() {
		if is, e := key.None(r); is || e != api.ErrForm {
			t.Errorf("%#v: %v, %v", r, is, e)
		}
	}
}

// P1.2

func TestTwo(t *testing.T) {
	for i, c := range []struct {
		a, b, both   api.Range
		over, ab, ba bool
	}{
		{to("a", "c"), to("b", "d"), to("b", "c"), true, false, false},
		{to("a", "d"), to("b", "c"), to("b", "c"), true, false, true},
		{to("a", "b"), to("b", "c"), to("b", "b"), false, false, false},
		{to("a", "b"), to("c", "d"), to("c", "c"), false, false, false},
		{to("a", "b"), to("a", "b"), to("a", "b"), true, true, true},
		{to("a", "b"), to("a", "c"), to("a", "b"), true, true, false},
		{to("a", "c"), to("b", "c"), to("b", "c"), true, false, true},
		{top("a"), top("a"), top("a"), true, true, true},
		{top("a"), top("b"), top("b"), true, false, true},
		{top("a"), to("a", "b"), to("a", "b"), true, false, true},
		{top("b"), to("a", "b"), to("b", "b"), false, false, false},
		{top("c"), to("a", "b"), to("c", "c"), false, false, false},
		{to("b", "b"), to("a", "c"), to("b", "b"), false, true, false},
		{to("b", "b"), to("b", "c"), to("b", "b"), false, true, false},
		{to("c", "c"), to("b", "c"), to("c", "c"), false, true, false},
		{to("d", "d"), to("b", "c"), to("d", "d"), false, false, false},
		{to("b", "b"), to("b", "b"), to("b", "b"), false, true, true},
		{top("b"), to("b", "b"), to("b", "b"), false, false, true},
		{top(""), api.Range{}, api.Range{}, false, false, true},
		{to("a", "a\x00"), to("a\x00", "b"), to("a\x00", "a\x00"), false, false, false},
		{top(text(api.MaxKey + 1)), to("", text(api.MaxKey+1)), to(text(api.MaxKey+1), text(api.MaxKey+1)), false, false, false},
	} {
		wantTwo(t, i, c.a, c.b, c.both, c.over, c.ab)
		wantTwo(t, i, c.b, c.a, c.both, c.over, c.ba)
	}
}

func wantTwo(t *testing.T, i int, a, b, both api.Range, over, in bool) {
	t.Helper()
	if is, e := key.Over(a, b); is != over || e != api.OK {
		t.Errorf("%d: Over(%#v, %#v): %v, %v", i, a, b, is, e)
	}
	if is, e := key.In(a, b); is != in || e != api.OK {
		t.Errorf("%d: In(%#v, %#v): %v, %v", i, a, b, is, e)
	}
	if r, e := key.Both(a, b); r != both || e != api.OK {
		t.Errorf("%d: Both(%#v, %#v): %#v, %v", i, a, b, r, e)
	}
}

// TestTwoByNumbers holds each pair of ranges against numbers: a bound's place
// among all bounds, and one above all of them for Top.
func TestTwoByNumbers(t *testing.T) {
	place := func(s string) int {
		n := 0
		for _, x := range bounds() {
			if x < s {
				n++
			}
		}
		return n
	}
	end := func(r api.Range) int {
		if r.Top {
			return len(bounds())
		}
		return place(r.High)
	}
	for _, a := range goodRanges() {
		for _, b := range goodRanges() {
			low, high := max(place(a.Low), place(b.Low)), min(end(a), end(b))
			if is, e := key.Over(a, b); is != (low < high) || e != api.OK {
				t.Errorf("Over(%#v, %#v): %v, %v", a, b, is, e)
			}
			if is, e := key.In(a, b); is != (place(a.Low) >= place(b.Low) && end(a) <= end(b)) || e != api.OK {
				t.Errorf("In(%#v, %#v): %v, %v", a, b, is, e)
			}
			r, e := key.Both(a, b)
			if place(r.Low) != low || end(r) != max(low, high) || key.Check(r) != api.OK || e != api.OK {
				t.Errorf("Both(%#v, %#v): %#v, %v", a, b, r, e)
			}
		}
	}
}

func TestTwoBad(t *testing.T) {
	others := append(goodRanges(), badRanges()...)
	for _, bad := range badRanges() {
		for _, r := range others {
			for _, x := range [][2]api.Range{{bad, r}, {r, bad}} {
				if is, e := key.Over(x[0], x[1]); is || e != api.ErrForm {
					t.Errorf("Over(%#v): %v, %v", x, is, e)
				}
				if is, e := key.In(x[0], x[1]); is || e != api.ErrForm {
					t.Errorf("In(%#v): %v, %v", x, is, e)
				}
				if r, e := key.Both(x[0], x[1]); r != (api.Range{}) || e != api.ErrForm {
					t.Errorf("Both(%#v): %#v, %v", x, r, e)
				}
			}
		}
	}
}

// P1.3

func TestKeyIsInBothJustIfInEach(t *testing.T) {
	for _, a := range goodRanges() {
		for _, b := range goodRanges() {
			both, e := key.Both(a, b)
			if e != api.OK {
				t.Fatalf("Both(%#v, %#v): %v", a, b, e)
			}
			for _, k := range keys() {
				inA, _ := key.Has(a, k)
				inB, _ := key.Has(b, k)
				if is, e := key.Has(both, k); is != (inA && inB) || e != api.OK {
					t.Errorf("Both(%#v, %#v) has %q: %v, %v", a, b, k, is, e)
				}
			}
		}
	}
}

func TestNothingIsInBothUnlessOver(t *testing.T) {
	for _, a := range goodRanges() {
		for _, b := range goodRanges() {
			over, _ := key.Over(a, b)
			both, _ := key.Both(a, b)
			if none, e := key.None(both); none == over || e != api.OK {
				t.Errorf("%#v, %#v: over %v, none %v, %v", a, b, over, none, e)
			}
		}
	}
}

func TestWhatIsInAnotherIsBoth(t *testing.T) {
	for _, a := range goodRanges() {
		for _, b := range goodRanges() {
			in, _ := key.In(a, b)
			both, _ := key.Both(a, b)
			if in && both != a {
				t.Errorf("%#v in %#v: Both %#v", a, b, both)
			}
		}
	}
}
