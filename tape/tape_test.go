package tape_test

import (
	"math"
	"slices"
	"strings"
	"testing"

	"quorum/api"
	"quorum/tape"
)

const mostWaits = 4 * api.MaxTape

// text is a sector of one byte, again and again.
func text(c byte) string { return strings.Repeat(string([]byte{c}), api.Sector) }

// sized is a text of so many bytes.
func sized(n int) string { return strings.Repeat("x", n) }

// kinds is a text with bytes of all kinds, from c on.
func kinds(c byte) string {
	var b [api.Sector]byte
	for i := range b {
		b[i] = c + byte(i)*37
	}
	return string(b[:])
}

func put(at int, s string) api.Do { return api.Do{Put: api.Put{At: at, Text: s}} }

func sync() api.Do { return api.Do{Sync: true} }

func waits(at int, s string) api.Put { return api.Put{At: at, Text: s} }

// of has a sector for each byte.
func of(s string, l ...api.Put) api.Tape {
	t := api.Tape{Waits: l}
	for _, c := range []byte(s) {
		t.Sectors = append(t.Sectors, text(c))
	}
	return t
}

// long has so many sectors, and so many that wait.
func long(sectors, wait int) api.Tape {
	var t api.Tape
	for i := range sectors {
		t.Sectors = append(t.Sectors, kinds(byte(i)))
	}
	for i := range wait {
		t.Waits = append(t.Waits, waits(i*7%sectors, kinds(byte(i/3))))
	}
	return t
}

// tapes are such as may be.
func tapes() []api.Tape {
	l := []api.Tape{
		of("a"), of("\x00"), of("ab"), of("abc"), of("aaaa"),
		of("a", waits(0, text('x'))), of("a", waits(0, text('x')), waits(0, text('y'))), of("abc", waits(2, text('x')), waits(0, text('y')), waits(2, text('z'))),
		of("abc", waits(1, text('b'))), of("\x00\xff", waits(0, kinds(0)), waits(1, kinds(200)), waits(0, text(0))),
		{Sectors: []string{strings.Repeat("日本", 6)[:api.Sector]}, Waits: []api.Put{waits(0, kinds(9))}},
	}
	for _, n := range []int{1, 2, 9, api.MaxTape - 1, api.MaxTape} {
		l = append(l, long(n, 0), long(n, 1), long(n, 5), long(n, mostWaits-1), long(n, mostWaits))
	}
	return l
}

// badTexts are as long as no sector is.
func badTexts() []string {
	return []string{"", "x", sized(api.Sector - 1), sized(api.Sector + 1), sized(2 * api.Sector), sized(5000), text(0)[1:], strings.Repeat("é", api.Sector)}
}

// badTapes are such as may not be: of how many sectors there are, of one that
// stands first, amid, last; of how many wait, of one that waits first, amid, last.
func badTapes() []api.Tape {
	full := long(api.MaxTape, mostWaits)
	l := []api.Tape{
		{}, {Sectors: []string{}}, {Waits: []api.Put{waits(0, text('a'))}}, long(api.MaxTape+1, 0), long(api.MaxTape+1, 3), long(2*api.MaxTape, 0),
		long(1, mostWaits+1), long(api.MaxTape, mostWaits+1), long(3, 2*mostWaits),
	}
	for _, s := range badTexts() {
		l = append(l, api.Tape{Sectors: []string{s}})
		for at := range 3 {
			x := of("abc", waits(1, text('x')))
			x.Sectors[at] = s
			y := of("abc", waits(0, text('x')), waits(1, text('y')), waits(2, text('z')))
			y.Waits[at].Text = s
			l = append(l, x, y)
		}
		for _, at := range []int{0, 99, api.MaxTape - 1} {
			l = append(l, api.Tape{Sectors: slices.Concat(full.Sectors[:at], []string{s}, full.Sectors[at+1:]), Waits: full.Waits})
		}
	}
	for _, at := range []int{-1, 3, 4, api.MaxTape, math.MinInt, math.MaxInt} {
		for k := range 3 {
			x := of("abc", waits(0, text('x')), waits(1, text('y')), waits(2, text('z')))
			x.Waits[k].At = at
			l = append(l, x)
		}
	}
	for _, k := range []int{0, 99, mostWaits - 1} {
		l = append(l, api.Tape{Sectors: full.Sectors, Waits: slices.Concat(full.Waits[:k], []api.Put{waits(api.MaxTape, text('x'))}, full.Waits[k+1:])})
	}
	return l
}

// plays holds what Play tells of a tape, of steps, of all n, to the words of the chapter.
func plays(t *testing.T, x api.Tape, l ...api.Do) {
	t.Helper()
	numbers := []int{math.MinInt, -2, -1, len(l) + 1, len(l) + 2, math.MaxInt}
	for n := range len(l) + 1 {
		numbers = append(numbers, n)
	}
	for _, n := range numbers {
		playsFirst(t, x, n, l...)
	}
}

func playsFirst(t *testing.T, x api.Tape, n int, l ...api.Do) {
	t.Helper()
	want, f := played(x, n, l)
	y, e := tape.Play(x, n, l...)
	if !same(y, want) || e != f {
		t.Fatalf("the first %d: %v, not %v, of tape, steps, told, not:%s", n, e, f, short(x, l, y, want))
	}
	if e == api.OK && tape.Check(y) != api.OK {
		t.Fatalf("the first %d: of tape, steps, told, that may not be:%s", n, short(x, l, y))
	}
}

// crashes holds what Crash tells to the words of the chapter.
func crashes(t *testing.T, x api.Tape, l ...int) {
	t.Helper()
	want, f := crashed(x, l)
	y, e := tape.Crash(x, l...)
	if !same(y, want) || e != f || e == api.OK && tape.Check(y) != api.OK {
		t.Fatalf("%v, not %v, of tape, numbers, told, not:%s", e, f, short(x, l, y, want))
	}
}

// reads holds Check, Waits, and Read of each sector and beside them, to the
// words of the chapter.
func reads(t *testing.T, x api.Tape) {
	t.Helper()
	want, many := api.OK, len(x.Waits)
	if !tapeMayBe(x) {
		want, many = api.ErrForm, 0
	}
	if n, e := tape.Waits(x); n != many || e != want || tape.Check(x) != want {
		t.Fatalf("%s: %d, %v, %v, not %d, %v", short(x), n, e, tape.Check(x), many, want)
	}
	at := []int{math.MinInt, -len(x.Sectors), -1, len(x.Sectors), len(x.Sectors) + 1, api.MaxTape, math.MaxInt, 0}
	for i := 1; i < len(x.Sectors); i += 1 + len(x.Sectors)/40 {
		at = append(at, i, len(x.Sectors)-i)
	}
	for _, i := range at {
		want, f := read(x, i)
		if s, e := tape.Read(x, i); s != want || e != f {
			t.Fatalf("%s, %d: %q, %v, not %q, %v", short(x), i, s, e, want, f)
		}
	}
}

// P18.1: Check, New.

func TestNew(t *testing.T) {
	for n := 1; n <= api.MaxTape; n++ {
		x, e := tape.New(n)
		if len(x.Sectors) != n || len(x.Waits) != 0 || e != api.OK || tape.Check(x) != api.OK {
			t.Fatalf("%d: %s, %v", n, short(x), e)
		}
		for i, s := range x.Sectors {
			if s != "\x00\x00\x00\x00\x00\x00\x00\x00\x00\x00\x00\x00\x00\x00\x00\x00\x00\x00\x00\x00\x00\x00\x00\x00\x00\x00\x00\x00\x00\x00\x00\x00" {
				t.Fatalf("%d, %d: %q", n, i, s)
			}
		}
	}
	for _, n := range []int{0, -1, -2, api.MaxTape + 1, 2 * api.MaxTape, math.MinInt, math.MaxInt, 1 << 32, 1<<32 + 1, -1 << 31} {
		if x, e := tape.New(n); !isZero(x) || e != api.ErrForm {
			t.Errorf("%d: %s, %v", n, short(x), e)
		}
	}
}

func TestTapesThatMayBe(t *testing.T) {
	for i, x := range tapes() {
		if e := tape.Check(x); e != api.OK || !tapeMayBe(x) {
			t.Fatalf("%d: %v", i, e)
		}
	}
}

// ErrForm stands ahead of all, whatever else is wrong.
func TestTapesThatMayNotBe(t *testing.T) {
	for i, x := range badTapes() {
		if e := tape.Check(x); e != api.ErrForm || tapeMayBe(x) {
			t.Fatalf("%d: %v", i, e)
		}
		reads(t, x)
		for _, n := range []int{-2, -1, 0, 1, 9} {
			for _, l := range [][]api.Do{nil, {sync()}, {put(0, text('a'))}, {put(-1, text('a'))}, {put(0, "x")}, {put(9999, "")}} {
				if y, e := tape.Play(x, n, l...); !isZero(y) || e != api.ErrForm {
					t.Fatalf("%d, %d: %s, %v", i, n, short(y), e)
				}
			}
		}
		for _, l := range [][]int{nil, {1}, {0}, {1, 0}, {0, 0, 3}} {
			if y, e := tape.Crash(x, l...); !isZero(y) || e != api.ErrForm {
				t.Fatalf("%d, %v: %s, %v", i, l, short(y), e)
			}
		}
	}
}

// P18.1: Read.

func TestRead(t *testing.T) {
	x := of("abcd", waits(1, text('x')), waits(3, kinds(7)), waits(1, text('y')))
	for i, want := range []string{text('a'), text('y'), text('c'), kinds(7)} {
		if s, e := tape.Read(x, i); s != want || e != api.OK {
			t.Errorf("%d: %q, %v", i, s, e)
		}
	}
	for _, i := range []int{-1, 4, 5, math.MinInt, math.MaxInt} {
		if s, e := tape.Read(x, i); s != "" || e != api.ErrNone {
			t.Errorf("%d: %q, %v", i, s, e)
		}
	}
	for _, x := range tapes() {
		reads(t, x)
	}
}

// P18.1: Play.

func TestPlay(t *testing.T) {
	x := of("abc", waits(2, text('p')))
	l := []api.Do{put(0, text('q')), put(0, text('r')), sync(), sync(), put(1, text('s')), put(2, text('t')), put(1, text('u')), sync(), put(0, text('v'))}
	for n, want := range map[int]api.Tape{
		0:           x,
		1:           of("abc", waits(2, text('p')), waits(0, text('q'))),
		2:           of("abc", waits(2, text('p')), waits(0, text('q')), waits(0, text('r'))),
		3:           of("rbp"),
		4:           of("rbp"),
		5:           of("rbp", waits(1, text('s'))),
		6:           of("rbp", waits(1, text('s')), waits(2, text('t'))),
		7:           of("rbp", waits(1, text('s')), waits(2, text('t')), waits(1, text('u'))),
		8:           of("rut"),
		9:           of("rut", waits(0, text('v'))),
		10:          of("rut", waits(0, text('v'))),
		math.MaxInt: of("rut", waits(0, text('v'))),
		-1:          of("rut", waits(0, text('v'))),
	} {
		if y, e := tape.Play(x, n, l...); !same(y, want) || e != api.OK {
			t.Errorf("%d: %s, %v", n, short(y), e)
		}
	}
	for _, n := range []int{-2, -3, math.MinInt} {
		for _, l := range [][]api.Do{l, nil, {put(9, "")}} {
			if y, e := tape.Play(x, n, l...); !isZero(y) || e != api.ErrForm {
				t.Errorf("%d: %s, %v", n, short(y), e)
			}
		}
	}
	plays(t, x, l...)
}

func TestPlayWithoutSteps(t *testing.T) {
	for _, x := range tapes() {
		for _, n := range []int{-1, 0, 1, math.MaxInt} {
			if y, e := tape.Play(x, n); !same(y, x) || e != api.OK {
				t.Fatalf("%d: %s, %v", n, short(y), e)
			}
		}
	}
}

// A Sync begins with what waits already, and goes on with nothing.
func TestSync(t *testing.T) {
	for _, x := range tapes() {
		plays(t, x, sync())
		plays(t, x, sync(), sync())
		plays(t, x, sync(), put(0, text('q')), sync(), put(len(x.Sectors)-1, text('r')), put(0, text('s')))
		if y, e := tape.Play(x, -1, sync()); len(y.Waits) != 0 || len(y.Sectors) != len(x.Sectors) || e != api.OK {
			t.Fatalf("%s, %v", short(y), e)
		}
	}
}

// The chapter gives a Put beside a Sync no meaning.
func TestPutBesideSync(t *testing.T) {
	for _, p := range []api.Put{waits(0, text('q')), waits(1, text('q')), waits(2, text('q')), waits(-1, text('q')), waits(0, ""), waits(0, "x"), waits(math.MinInt, "x")} {
		x := of("ab", waits(1, text('x')))
		if y, e := tape.Play(x, -1, api.Do{Sync: true, Put: p}, put(0, text('r'))); !same(y, of("ax", waits(0, text('r')))) || e != api.OK {
			t.Errorf("%s: %s, %v", short(p), short(y), e)
		}
	}
	if y, e := tape.Play(long(2, mostWaits), -1, api.Do{Sync: true, Put: waits(0, text('q'))}); len(y.Waits) != 0 || y.Sectors[0] == text('q') || e != api.OK {
		t.Errorf("%s, %v", short(y), e)
	}
}

// badPuts, of a tape of three sectors, and what they tell.
func badPuts() map[api.Do]api.Errno {
	l := map[api.Do]api.Errno{{}: api.ErrForm}
	for _, at := range []int{-1, 3, 4, api.MaxTape, math.MinInt, math.MaxInt} {
		l[put(at, text('x'))] = api.ErrNone
		for _, s := range badTexts() {
			l[put(at, s)] = api.ErrNone
		}
	}
	for _, s := range badTexts() {
		for at := range 3 {
			l[put(at, s)] = api.ErrForm
		}
	}
	return l
}

// A step that is wrong: behind the first n it is not seen, first, amid, as the
// last one of them it is, and what was put ahead of it is not told.
func TestWrongSteps(t *testing.T) {
	good := []api.Do{put(0, text('q')), put(2, text('r')), sync(), put(1, text('s'))}
	for bad, want := range badPuts() {
		for at := range len(good) + 1 {
			l := slices.Insert(slices.Clone(good), at, bad)
			for n := range len(l) + 2 {
				f := api.OK
				if n > at {
					f = want
				}
				x := of("abc", waits(1, text('x')))
				if y, e := tape.Play(x, n, l...); e != f || isZero(y) != (f != api.OK) {
					t.Fatalf("%s at %d, %d: %s, %v, not %v", short(bad), at, n, short(y), e, f)
				}
			}
			plays(t, of("abc", waits(1, text('x'))), l...)
		}
	}
}

// The first step that is wrong tells its error.
func TestTheFirstWrongStep(t *testing.T) {
	x := of("abc")
	for a, e := range badPuts() {
		for b, f := range badPuts() {
			if y, g := tape.Play(x, -1, a, b); !isZero(y) || g != e {
				t.Fatalf("%s: %s, %v", short(a, b), short(y), g)
			}
			if y, g := tape.Play(x, 2, sync(), b, a); !isZero(y) || g != f {
				t.Fatalf("%s: %s, %v", short(b, a), short(y), g)
			}
		}
	}
}

func TestMoreThanMayWait(t *testing.T) {
	for _, x := range []api.Tape{long(1, mostWaits), long(3, mostWaits), long(api.MaxTape, mostWaits)} {
		if y, e := tape.Play(x, -1, put(0, text('q'))); !isZero(y) || e != api.ErrLimit {
			t.Errorf("%s, %v", short(y), e)
		}
		// ErrNone, then ErrForm, ahead of ErrLimit
		for _, at := range []int{-1, len(x.Sectors)} {
			for _, s := range []string{text('q'), "x"} {
				if y, e := tape.Play(x, -1, put(at, s)); !isZero(y) || e != api.ErrNone {
					t.Errorf("%s, %v", short(y), e)
				}
			}
		}
		if y, e := tape.Play(x, -1, put(0, "x")); !isZero(y) || e != api.ErrForm {
			t.Errorf("%s, %v", short(y), e)
		}
		// the first step that is wrong, whatever comes behind it
		if y, e := tape.Play(x, -1, put(0, text('q')), put(-1, text('q'))); !isZero(y) || e != api.ErrLimit {
			t.Errorf("%s, %v", short(y), e)
		}
		plays(t, x, put(0, text('q')), sync())
		plays(t, x, sync(), put(0, text('q')))
	}
}

// Those that waited ahead of the steps count, too.
func TestUpToTheLimit(t *testing.T) {
	for _, ahead := range []int{0, 1, 1000, mostWaits - 1, mostWaits} {
		x := long(3, ahead)
		l := slices.Repeat([]api.Do{put(2, text('q')), put(0, text('r'))}, mostWaits)
		left := mostWaits - ahead
		for _, n := range []int{left - 1, left} {
			if n >= 0 {
				playsFirst(t, x, n, l...)
			}
		}
		if y, e := tape.Play(x, left, l...); len(y.Waits) != mostWaits || e != api.OK {
			t.Errorf("%d: %d, %v", ahead, len(y.Waits), e)
		}
		for _, n := range []int{-1, left + 1, left + 2, len(l)} {
			if y, e := tape.Play(x, n, l...); !isZero(y) || e != api.ErrLimit {
				t.Errorf("%d, %d: %s, %v", ahead, n, short(y), e)
			}
		}
		again := slices.Concat(l[:left], []api.Do{sync()}, l[:mostWaits])
		for _, n := range []int{-1, left + 1, left + 2, len(again) - 1} {
			playsFirst(t, x, n, again...)
		}
		if y, e := tape.Play(x, -1, again...); len(y.Waits) != mostWaits || y.Sectors[2] != text('q') && left > 0 || e != api.OK {
			t.Errorf("%d: %s, %v", ahead, short(y), e)
		}
		if y, e := tape.Play(x, -1, append(again, put(0, text('s')))...); !isZero(y) || e != api.ErrLimit {
			t.Errorf("%d: %s, %v", ahead, short(y), e)
		}
	}
}

// Each sector of the longest tape, put one by one.
func TestAllSectors(t *testing.T) {
	x, _ := tape.New(api.MaxTape)
	var l []api.Do
	for i := range api.MaxTape {
		l = append(l, put(i, kinds(byte(i))), put(api.MaxTape-1-i, kinds(byte(i+1))))
	}
	for _, n := range []int{-1, 1, 2, api.MaxTape - 1, api.MaxTape, api.MaxTape + 1, 2*api.MaxTape - 1} {
		playsFirst(t, x, n, l...)
		playsFirst(t, x, -1, append(slices.Clone(l[:max(n, 0)]), sync())...)
	}
	y, _ := tape.Play(x, -1, append(l, sync())...)
	reads(t, y)
}

// lists are all of up to most things.
func lists[T any](things []T, most int) [][]T {
	all, from := [][]T{nil}, 0
	for range most {
		to := len(all)
		for _, l := range all[from:to] {
			for _, x := range things {
				all = append(all, append(slices.Clone(l), x))
			}
		}
		from = to
	}
	return all
}

// All lists of up to five steps, of all n: also of some that are wrong.
func TestAllShortLists(t *testing.T) {
	things := []api.Do{put(0, text('q')), put(0, text('r')), put(1, text('s')), sync(), put(2, text('q'))}
	for _, x := range []api.Tape{of("ab"), of("abc"), of("ab", waits(1, text('x'))), of("ab", waits(0, text('x')), waits(1, text('y')), waits(0, text('z')))} {
		for _, l := range lists(things, 5) {
			plays(t, x, l...)
		}
		for _, l := range lists(append(things, put(-1, "x"), put(1, "x")), 3) {
			plays(t, x, l...)
		}
	}
}

// P18.2

func TestCrash(t *testing.T) {
	x := of("abcd", waits(1, text('p')), waits(0, text('q')), waits(1, text('r')), waits(3, text('s')), waits(1, text('t')))
	for i, c := range []struct {
		l    []int
		want string
	}{
		{nil, "abcd"}, {[]int{}, "abcd"},
		{[]int{0}, "abcd"}, {[]int{1}, "qtcs"}, {[]int{2}, "abcd"}, {[]int{3}, "qtcs"},
		{[]int{-1}, "qtcs"}, {[]int{-2}, "abcd"}, {[]int{-3}, "qtcs"}, {[]int{math.MinInt}, "abcd"}, {[]int{math.MaxInt}, "qtcs"}, {[]int{math.MinInt + 1}, "qtcs"}, {[]int{math.MaxInt - 1}, "abcd"},
		{[]int{1, 0}, "atcd"}, {[]int{0, 1}, "qbcs"}, {[]int{1, 0, 0}, "apcs"}, {[]int{0, 1, 0}, "qtcd"}, {[]int{0, 0, 1}, "arcd"},
		{[]int{1, 0, 0, 0}, "atcd"}, {[]int{0, 0, 0, 1}, "abcs"}, {[]int{1, 1, 0, 0}, "qtcd"},
		{[]int{1, 0, 1, 0, 0}, "arcd"}, {[]int{1, 0, 0, 0, 0}, "apcd"}, {[]int{0, 0, 1, 0, 1}, "atcd"}, {[]int{0, 0, 0, 0, 0}, "abcd"}, {[]int{1, 1, 1, 1, 1}, "qtcs"},
		{[]int{0, 0, 0, 0, 0, 1}, "abcd"}, {[]int{1, 0, 0, 0, 0, 1, 1, 1}, "apcd"}, {[]int{0, 1, 0, 1, 0, 1, 0, 1}, "qbcs"},
	} {
		if y, e := tape.Crash(x, c.l...); !same(y, of(c.want)) || e != api.OK {
			t.Errorf("%d: %s, %v", i, short(y), e)
		}
		crashes(t, x, c.l...)
	}
}

// Where nothing waits, numbers change nothing.
func TestCrashWhereNothingWaits(t *testing.T) {
	for _, x := range []api.Tape{of("a"), of("abc"), long(api.MaxTape, 0), {Sectors: []string{kinds(3)}, Waits: []api.Put{}}} {
		for _, l := range [][]int{nil, {0}, {1}, {1, 1, 1}, {-1, math.MaxInt}} {
			if y, e := tape.Crash(x, l...); !same(y, x) || e != api.OK {
				t.Errorf("%v: %s, %v", l, short(y), e)
			}
		}
	}
}

// All lists of up to four numbers, of up to five that wait.
func TestAllShortListsOfNumbers(t *testing.T) {
	for _, x := range tapes()[:11] {
		for _, l := range lists([]int{0, 1, -1, -2, 7, math.MinInt, math.MaxInt}, 4) {
			crashes(t, x, l...)
		}
	}
	for _, puts := range lists([]api.Put{waits(0, text('x')), waits(0, text('y')), waits(1, text('z'))}, 5) {
		for _, l := range lists([]int{0, 1}, 6) {
			crashes(t, of("ab", puts...), l...)
		}
	}
}

func TestCrashOfManyThatWait(t *testing.T) {
	for _, x := range tapes() {
		for _, many := range []int{1, 2, 3, 5, 64, len(x.Waits) - 1, len(x.Waits), len(x.Waits) + 1, 2 * len(x.Waits)} {
			var l []int
			for i := range many {
				l = append(l, i*i*i/5)
			}
			crashes(t, x, l...)
		}
		crashes(t, x)
	}
}

func TestWaits(t *testing.T) {
	for want, x := range map[int]api.Tape{0: of("ab"), 1: of("ab", waits(1, text('x'))), 5: long(3, 5), mostWaits - 1: long(1, mostWaits-1), mostWaits: long(api.MaxTape, mostWaits)} {
		if n, e := tape.Waits(x); n != want || e != api.OK {
			t.Errorf("%d, not %d, %v", n, want, e)
		}
	}
	// ahead of steps, of a Sync, of a crash, and behind them
	x, _ := tape.New(3)
	for i, c := range []struct {
		l    []api.Do
		want int
	}{{nil, 0}, {[]api.Do{put(0, text('a'))}, 1}, {[]api.Do{put(0, text('a')), put(2, text('b'))}, 3}, {[]api.Do{put(1, text('c')), sync(), put(0, text('d'))}, 1}, {[]api.Do{sync()}, 0}, {[]api.Do{put(0, text('e')), put(0, text('e'))}, 2}} {
		x, _ = tape.Play(x, -1, c.l...)
		y, _ := tape.Crash(x, 1, 0)
		n, e := tape.Waits(x)
		m, f := tape.Waits(y)
		if n != c.want || m != 0 || e != api.OK || f != api.OK {
			t.Errorf("%d: %d, %v, behind a crash %d, %v", i, n, e, m, f)
		}
		reads(t, x)
		reads(t, y)
	}
}

// Example 1.
func TestExample(t *testing.T) {
	x, _ := tape.New(2)
	y, _ := tape.Play(x, -1, put(1, text('a')))
	z, e := tape.Crash(y)
	if s, f := tape.Read(y, 1); s != text('a') || f != api.OK {
		t.Errorf("%q, %v", s, f)
	}
	if s, f := tape.Read(z, 1); !same(z, x) || s != text(0) || e != api.OK || f != api.OK {
		t.Errorf("%s, %q, %v, %v", short(z), s, e, f)
	}
}
