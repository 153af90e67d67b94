package tape_test

import (
	"fmt"
	"reflect"
	"slices"
	"strings"
	"testing"

	"quorum/api"
	"quorum/tape"
)

// R1, R2.

// span is where a list lies, its spare room, too, or a text.
type span struct{ from, to uintptr }

// spans are those of all lists and texts, all the way down.
func spans(v reflect.Value) []span {
	var l []span
	switch v.Kind() {
	case reflect.String:
		if v.Len() > 0 {
			from := uintptr(v.UnsafePointer())
			l = append(l, span{from, from + uintptr(v.Len())})
		}
	case reflect.Slice:
		if v.Cap() > 0 {
			l = append(l, span{v.Pointer(), v.Pointer() + uintptr(v.Cap())*v.Type().Elem().Size()})
		}
		for i := range v.Len() {
			l = append(l, spans(v.Index(i))...)
		}
	case reflect.Struct:
		for i := range v.NumField() {
			l = append(l, spans(v.Field(i))...)
		}
	}
	return l
}

// apart holds that no two lists or texts of all that is given share memory.
func apart(t *testing.T, all ...any) {
	t.Helper()
	var l []span
	for _, x := range all {
		l = append(l, spans(reflect.ValueOf(x))...)
	}
	slices.SortFunc(l, func(a, b span) int {
		if a.from < b.from {
			return -1
		}
		return 1
	})
	for at := 1; at < len(l); at++ {
		if l[at-1].to > l[at].from {
			t.Fatalf("two share memory, of:%s", short(all...))
		}
	}
}

// own is x with each of its texts in memory of its own.
func own(x api.Tape) api.Tape {
	var y api.Tape
	for _, s := range x.Sectors {
		y.Sectors = append(y.Sectors, strings.Clone(s))
	}
	for _, p := range x.Waits {
		y.Waits = append(y.Waits, waits(p.At, strings.Clone(p.Text)))
	}
	return y
}

func ownSteps(l []api.Do) []api.Do {
	var m []api.Do
	for _, d := range l {
		d.Put.Text = strings.Clone(d.Put.Text)
		m = append(m, d)
	}
	return m
}

// ways are lists of steps that may be played on each tape on which not too many
// wait.
func ways() [][]api.Do {
	return [][]api.Do{
		nil, {sync()}, {put(0, text('q'))}, {put(0, text('q')), put(0, text('q'))}, {put(0, kinds(1)), sync(), put(0, kinds(2))},
		{sync(), put(0, text('q')), put(0, text('r')), sync(), sync(), put(0, text('s')), put(0, text('t')), put(0, text('u'))},
	}
}

func TestAnswersShareNothing(t *testing.T) {
	a, _ := tape.New(3)
	b, _ := tape.New(3)
	c, _ := tape.New(api.MaxTape)
	apart(t, a, b, c)
	for _, like := range tapes() {
		x := own(like)
		told := []any{x}
		for _, steps := range ways() {
			l := ownSteps(steps)
			told = append(told, l)
			for _, n := range []int{-1, 0, 1, len(l)} {
				y, _ := tape.Play(x, n, l...)
				told = append(told, y)
			}
		}
		for _, l := range [][]int{nil, {0}, {1}, {1, 0}, {1}} {
			y, _ := tape.Crash(x, l...)
			told = append(told, l, y)
		}
		for _, i := range []int{0, 0, len(x.Sectors) - 1} {
			s, _ := tape.Read(x, i)
			told = append(told, s)
		}
		apart(t, told...)
	}
}

// The spare room of what is handed in stays, too.
func TestHandedInStaysAsItIs(t *testing.T) {
	spare := put(0, text('~'))
	for _, like := range append(tapes(), badTapes()...) {
		x := own(like)
		x.Sectors = append(slices.Grow(x.Sectors, 2), "spare", "room")[:len(like.Sectors)]
		x.Waits = append(slices.Grow(x.Waits, 2), spare.Put, spare.Put)[:len(like.Waits)]
		for _, steps := range append(ways(), []api.Do{put(0, text('q')), put(-1, ""), sync()}) {
			l := append(slices.Grow(slices.Clone(steps), 2), spare, spare)
			numbers := append(slices.Grow([]int{1, 0, -1}, 2), 5, 6)
			for _, n := range []int{-2, -1, 0, 1} {
				tape.Play(x, n, l[:len(steps)]...)
			}
			tape.Crash(x, numbers[:3]...)
			if !slices.Equal(l, append(slices.Clone(steps), spare, spare)) || !slices.Equal(numbers, []int{1, 0, -1, 5, 6}) {
				t.Errorf("%s, %v", short(l), numbers)
			}
		}
		tape.Read(x, 0)
		tape.Waits(x)
		tape.Check(x)
		if !same(x, like) || !slices.Equal(x.Sectors[:len(x.Sectors)+2], append(slices.Clone(like.Sectors), "spare", "room")) || !slices.Equal(x.Waits[:len(x.Waits)+2], append(slices.Clone(like.Waits), spare.Put, spare.Put)) {
			t.Errorf("of told, not:%s", short(x, like))
		}
	}
}

// Nothing is kept: what is changed behind a call is told anew by the next one,
// what was told stays, and whoever writes into it, or appends to it, changes
// nothing else.
func TestNothingIsKept(t *testing.T) {
	x := of("abc", waits(1, text('x')), waits(2, text('y')))
	l := []api.Do{put(0, text('q')), sync(), put(1, text('r'))}
	y, _ := tape.Play(x, -1, l...)
	z, _ := tape.Crash(x, 1)
	x.Sectors[0], x.Waits[0], l[0], l[2] = text('w'), waits(0, text('w')), put(2, text('w')), put(2, text('w'))
	if !same(y, of("qxy", waits(1, text('r')))) || !same(z, of("axy")) {
		t.Errorf("%s", short(y, z))
	}
	plays(t, x, l...)
	crashes(t, x, 1)
	next, _ := tape.Play(y, -1, put(2, text('s')))
	for i := range y.Sectors {
		y.Sectors[i] = "overwritten"
	}
	y.Waits[0] = waits(9, "overwritten")
	_, _ = append(y.Sectors, "more"), append(y.Waits, waits(9, "more"))
	_, _ = append(z.Sectors, "more"), append(z.Waits, waits(9, "more"))
	if !same(next, of("qxy", waits(1, text('r')), waits(2, text('s')))) {
		t.Errorf("%s", short(next))
	}
	a, _ := tape.New(3)
	a.Sectors[0] = "overwritten"
	_ = append(a.Sectors, "more")
	if b, e := tape.New(3); !same(b, of("\x00\x00\x00")) || e != api.OK {
		t.Errorf("%s, %v", short(b), e)
	}
}

// The same call tells the same.
func TestTheSameCall(t *testing.T) {
	tell := func(x api.Tape, l []api.Do) string {
		s, e := tape.Read(x, 0)
		y, f := tape.Play(x, -1, l...)
		z, g := tape.Crash(x, 1, 0, 1)
		n, h := tape.Waits(x)
		return fmt.Sprintf("%q %v %v %d %v", s, y, z, n, []api.Errno{tape.Check(x), e, f, g, h})
	}
	for _, x := range append(tapes()[:14], badTapes()[:4]...) {
		for _, l := range ways() {
			want := tell(x, l)
			for range 3 {
				if got := tell(x, l); got != want {
					t.Fatalf("of told, not:%s", short(got, want))
				}
			}
		}
	}
}

// A nil list and an empty one are one.
func TestNilAndEmptyAreOne(t *testing.T) {
	for _, puts := range [][]api.Put{nil, {}, make([]api.Put, 0, 5)} {
		x := of("ab", puts...)
		x.Waits = puts
		reads(t, x)
		for _, l := range [][]api.Do{nil, {}, make([]api.Do, 0, 5), {sync()}} {
			plays(t, x, l...)
		}
		for _, l := range [][]int{nil, {}, make([]int, 0, 5)} {
			crashes(t, x, l...)
			crashes(t, of("ab", waits(0, text('x'))), l...)
		}
		reads(t, api.Tape{Waits: puts})
	}
	for _, sectors := range [][]string{nil, {}, make([]string, 0, 5)} {
		reads(t, api.Tape{Sectors: sectors})
	}
}
