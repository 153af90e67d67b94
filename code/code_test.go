package code_test

import (
	"math"
	"slices"
	"strings"
	"testing"

	"quorum/api"
	"quorum/code"
)

func put(table int, k, v string) api.Write { return api.Write{Table: table, Key: k, Value: v} }

func gone(table int, k string) api.Write { return api.Write{Table: table, Key: k, Gone: true} }

func of(commit int, l ...api.Write) api.Record { return api.Record{Commit: commit, Writes: l} }

func long(n int) string { return strings.Repeat("x", n) }

// full has n writes of the longest keys and values.
func full(n int) api.Record {
	return of(api.MaxNum, slices.Repeat([]api.Write{put(api.MaxTables-1, strings.Repeat("\xff", api.MaxKey), strings.Repeat("\xff", api.MaxValue))}, n)...)
}

// mixed has n writes, of all tables, of keys and values of all lengths, some of them gone.
func mixed(commit, n int) api.Record {
	r := of(commit)
	for i := range n {
		k := strings.Repeat(one(i*37), 1+i%api.MaxKey)
		if i%5 == 4 {
			r.Writes = append(r.Writes, gone(i%api.MaxTables, k))
		} else {
			r.Writes = append(r.Writes, put(i%api.MaxTables, k, strings.Repeat(one(255-i), i%(api.MaxValue+1))))
		}
	}
	return r
}

// heavy has just so many bytes (8, or 13 and more).
func heavy(commit, bytes int) api.Record {
	r := of(commit)
	for left := bytes - 8; left > 0; {
		size := min(left, 36)
		if rest := left - size; rest > 0 && rest < 5 {
			size -= 5
		}
		k := min(size-4, api.MaxKey)
		r.Writes = append(r.Writes, put(1, strings.Repeat("k", k), strings.Repeat("v", size-4-k)))
		left -= size
	}
	return r
}

// records are such as may be.
func records() []api.Record {
	l := []api.Record{
		of(1), of(api.MaxNum), of(0x01020304), of(256), of(1<<24 - 1),
		of(1, put(0, "a", "")), of(1, gone(0, "a")), of(1, put(0, "a", ""), gone(0, "a"), put(0, "a", "")), of(2, gone(2, "z"), put(1, "m", "v"), put(0, "a", "w")),
		of(3, put(1, "b", "1"), put(1, "b", "1"), put(1, "b", "2"), gone(1, "b"), gone(1, "b")),
		of(9, put(0, "\x00", "\x00\xff\x00"), put(2, "\xff", ""), gone(1, "\x00\xff\x00"), put(1, strings.Repeat("\x00", api.MaxKey), strings.Repeat("\x00", api.MaxValue)), put(0, strings.Repeat("\xff", api.MaxKey), strings.Repeat("\xff", api.MaxValue))),
		of(5, put(0, "\x00\x00\x01", "\x00\x00\x01")), of(6, put(2, "\x01k\x00\x00", "\x00\x00\x01a\x00")), of(4, put(2, "é", "日本語")),
	}
	for n := 1; n < api.MaxRooms; n += 7 {
		l = append(l, mixed(n, n))
	}
	for _, n := range []int{1, 2, 3, api.MaxRooms - 1, api.MaxRooms} {
		l = append(l, full(n), mixed(api.MaxNum-n, n))
	}
	for bytes := 13; bytes <= 90; bytes++ {
		l = append(l, heavy(bytes, bytes))
	}
	return l
}

// badWrites are such as may not be.
func badWrites() []api.Write {
	return []api.Write{
		{}, put(-1, "a", "v"), put(api.MaxTables, "a", "v"), put(256, "a", "v"), put(math.MinInt, "a", ""), put(math.MaxInt, "a", ""), gone(-1, "a"), gone(api.MaxTables, "a"),
		put(0, "", "v"), gone(0, ""), put(0, long(api.MaxKey+1), ""), gone(1, long(api.MaxKey+1)), put(0, long(256), ""), put(0, long(257), ""),
		put(0, "a", long(api.MaxValue+1)), put(2, "a", long(256)), {Key: "a", Value: "v", Gone: true}, {Table: 2, Key: "a", Value: "\x00", Gone: true}, {Table: 9, Key: long(99), Value: long(99), Gone: true},
	}
}

func badCommits() []int {
	return []int{0, -1, math.MinInt, math.MaxInt, api.MaxNum + 1, 1 << 32, 1<<32 + 1, -1 << 31}
}

// badRecords are such as may not be: of their commit, of how many writes there
// are, of a write that stands first, amid, last.
func badRecords() []api.Record {
	l := []api.Record{full(api.MaxRooms + 1), mixed(1, api.MaxRooms+1), full(2 * api.MaxRooms), full(256), full(256 + 1)}
	for _, n := range badCommits() {
		l = append(l, of(n), of(n, put(0, "a", "v")), of(n, full(api.MaxRooms).Writes...), of(n, full(api.MaxRooms+1).Writes...), of(n, badWrites()...))
	}
	for _, w := range badWrites() {
		l = append(l, of(1, w), of(1, w, put(0, "a", "v"), gone(0, "b")), of(1, put(0, "a", "v"), w, gone(0, "b")), of(1, put(0, "a", "v"), gone(0, "b"), w), of(1, w, w))
		for _, at := range []int{0, 30, api.MaxRooms - 1} {
			r := mixed(api.MaxNum, api.MaxRooms)
			r.Writes[at] = w
			l = append(l, r)
		}
	}
	return l
}

// numbers are such as runs and numbers may be.
func numbers() []int { return []int{0, 1, 2, 255, 256, 0x01020304, api.MaxNum - 1, api.MaxNum} }

func badNumbers() []int {
	return []int{-1, api.MaxNum + 1, math.MinInt, math.MaxInt, 1 << 31, 1 << 32, 1<<32 + 1}
}

// P17.1: Check, Bytes.

func TestBytes(t *testing.T) {
	for i, c := range []struct {
		r    api.Record
		want string
	}{
		{of(1), "\x00\x00\x00\x01\x00\x00\x00\x00"},
		{of(api.MaxNum), "\x40\x00\x00\x00\x00\x00\x00\x00"},
		{of(0x01020304, put(2, "key", "value"), gone(0, "z"), put(1, "q", "")), "\x01\x02\x03\x04\x00\x00\x00\x03\x02\x00\x03key\x05value\x00\x01\x01z\x00\x01\x00\x01q\x00"},
		{of(258, put(0, "a", "")), "\x00\x00\x01\x02\x00\x00\x00\x01\x00\x00\x01a\x00"},
		{of(258, gone(0, "a")), "\x00\x00\x01\x02\x00\x00\x00\x01\x00\x01\x01a\x00"},
		{of(7, gone(1, "b"), put(1, "a", "1"), put(1, "a", "1")), "\x00\x00\x00\x07\x00\x00\x00\x03\x01\x01\x01b\x00\x01\x00\x01a\x011\x01\x00\x01a\x011"},
		{of(1, put(0, "\x00\xff", "\xff\x00")), "\x00\x00\x00\x01\x00\x00\x00\x01\x00\x00\x02\x00\xff\x02\xff\x00"},
		{full(1), "\x40\x00\x00\x00\x00\x00\x00\x01\x02\x00\x0c" + strings.Repeat("\xff", 12) + "\x14" + strings.Repeat("\xff", 20)},
		{full(api.MaxRooms), "\x40\x00\x00\x00\x00\x00\x00\x40" + strings.Repeat("\x02\x00\x0c"+strings.Repeat("\xff", 12)+"\x14"+strings.Repeat("\xff", 20), 64)},
	} {
		if s, e := code.Bytes(c.r); s != c.want || e != api.OK {
			t.Errorf("%d: %q, %v", i, s, e)
		}
		if r, e := code.Take(c.want); !same(r, c.r) || e != api.OK {
			t.Errorf("%d: %v, %v", i, r, e)
		}
	}
}

// held holds all that P17.1 tells of a record to the words of the chapter.
func held(t *testing.T, r api.Record) {
	t.Helper()
	want := api.OK
	if !recordMayBe(r) {
		want = api.ErrForm
	}
	s, e := code.Bytes(r)
	if code.Check(r) != want || e != want {
		t.Fatalf("%v: %v, %v, not %v", r, code.Check(r), e, want)
	}
	for _, at := range [][2]int{{0, 0}, {3, 9}, {api.MaxNum, api.MaxNum}} {
		l, e := code.Sectors(r, at[0], at[1])
		if e != want || want == api.OK && !slices.Equal(l, recordSectors(r, at[0], at[1])) || want != api.OK && len(l) > 0 {
			t.Fatalf("%v, %v: %q, %v, not %v", r, at, l, e, want)
		}
	}
	if want != api.OK {
		if s != "" {
			t.Fatalf("%v: beside an error: %q", r, s)
		}
		return
	}
	x, e := code.Take(s)
	if s != recordBytes(r) || !same(x, r) || e != api.OK {
		t.Fatalf("%v: %q, %v, %v", r, s, x, e)
	}
}

func TestRecordsThatMayBe(t *testing.T) {
	for i, r := range records() {
		if e := code.Check(r); e != api.OK || !recordMayBe(r) {
			t.Fatalf("%d: %v: %v", i, r, e)
		}
		held(t, r)
	}
}

func TestRecordsThatMayNotBe(t *testing.T) {
	for i, r := range badRecords() {
		if e := code.Check(r); e != api.ErrForm || recordMayBe(r) {
			t.Fatalf("%d: %v: %v", i, r, e)
		}
		held(t, r)
	}
}

// Each length that a text may have, each table that there may be, with a value
// and gone.
func TestAllLengths(t *testing.T) {
	for _, isGone := range []bool{false, true} {
		for table := -2; table < api.MaxTables+2; table++ {
			for k := range api.MaxKey + 3 {
				for v := range api.MaxValue + 3 {
					held(t, of(1, api.Write{Table: table, Key: long(k), Value: long(v), Gone: isGone}))
				}
			}
		}
	}
}

func TestHowManyWrites(t *testing.T) {
	for n := range 2 * api.MaxRooms {
		held(t, mixed(n+1, n))
	}
}

func TestCommits(t *testing.T) {
	for bit := range 34 {
		for n := 1<<bit - 2; n <= 1<<bit+2; n++ {
			held(t, of(n, put(0, "a", "v")))
		}
	}
}

// P17.1: Take.

func bad(t *testing.T, s string) {
	t.Helper()
	if r, e := code.Take(s); !isZero(r) || e != api.ErrBad {
		t.Errorf("%q: %v, %v", s, r, e)
	}
}

// taken holds Take to the words of the chapter; it tells whether there is such
// a record.
func taken(t *testing.T, s string) bool {
	t.Helper()
	want, err := record(s)
	if err != nil {
		bad(t, s)
		return false
	}
	if r, e := code.Take(s); !same(r, want) || e != api.OK {
		t.Errorf("%q: %v, %v, not %v", s, r, e, want)
	}
	return true
}

// one write of table 0, of key "a", without a value.
const oneWrite = "\x00\x00\x00\x01\x00\x00\x00\x01\x00\x00\x01a\x00"

func TestTakeOfWhatIsNoRecord(t *testing.T) {
	if r, e := code.Take(oneWrite); !same(r, of(1, put(0, "a", ""))) || e != api.OK {
		t.Fatalf("%v, %v", r, e)
	}
	const first = "\x00\x00\x00\x01\x00\x00\x00\x01"
	for _, s := range []string{
		"", "\x00", "a", strings.Repeat("\x00", 7), strings.Repeat("\x00", 8), strings.Repeat("\x00", 32), strings.Repeat("\xff", 8), strings.Repeat("\xff", 4000),
		"\x00\x00\x00\x00\x00\x00\x00\x01\x00\x00\x01a\x00", "\x40\x00\x00\x01\x00\x00\x00\x00", "\x80\x00\x00\x00\x00\x00\x00\x00", "\xff\xff\xff\xff\x00\x00\x00\x00",
		first, first + "\x00\x00\x01a", first + "\x00", first + "\x00\x00\x02a\x00", first + "\x00\x00\x01a\x01",
		"\x00\x00\x00\x01\x00\x00\x00\x00\x00\x00\x01a\x00", "\x00\x00\x00\x01\x00\x00\x00\x02\x00\x00\x01a\x00", "\x00\x00\x00\x01\x01\x00\x00\x00", "\x00\x00\x00\x01\x00\x00\x01\x01\x00\x00\x01a\x00",
		"\x00\x00\x00\x01\xff\xff\xff\xff", "\x00\x00\x00\x01\xff\xff\xff\xff\x00\x00\x01a\x00", "\x00\x00\x00\x01\x80\x00\x00\x00", "\x00\x00\x00\x01\x80\x00\x00\x01\x00\x00\x01a\x00",
		first + "\x03\x00\x01a\x00", first + "\xff\x00\x01a\x00", first + "\x00\x02\x01a\x00", first + "\x00\xff\x01a\x00", first + "\x00\x02\x01a\x01v",
		first + "\x00\x01\x01a\x01v", first + "\x00\x01\x01a\x01\x00", first + "\x00\x00\x00\x00", first + "\x00\x01\x00\x00", first + "\x00\x00\x00\x01v",
		first + "\x00\x00\x0d" + long(13) + "\x00", first + "\x00\x01\x0d" + long(13) + "\x00", first + "\x00\x00\xff" + long(255) + "\x00",
		first + "\x00\x00\x01a\x15" + long(21), first + "\x00\x00\x01a\xff" + long(255), oneWrite + oneWrite, oneWrite + "\x00\x00\x01a\x00", "\x00" + oneWrite,
	} {
		bad(t, s)
		if taken(t, s) {
			t.Errorf("%q is a record", s)
		}
	}
	for _, n := range []int{api.MaxRooms + 1, api.MaxRooms + 2, 2 * api.MaxRooms, 256, 256 + api.MaxRooms, 1 << 16} {
		bad(t, four(1)+four(n)+strings.Repeat("\x00\x00\x01a\x00", n))
		bad(t, four(1)+four(n)+strings.Repeat("\x00\x00\x01a\x00", api.MaxRooms))
	}
}

// All that fits its byte.
func TestTakeOfWritesThatMayNotBe(t *testing.T) {
	a, b := put(0, "a", "v"), gone(2, "b")
	for _, w := range badWrites() {
		if w.Table < 0 || w.Table > 255 || len(w.Key) > 255 || len(w.Value) > 255 {
			continue
		}
		for _, l := range [][]api.Write{{w}, {w, a, b}, {a, w, b}, {a, b, w}} {
			bad(t, recordBytes(of(1, l...)))
		}
	}
}

// Cut off at every place, and one byte more.
func TestTakeOfFewerAndMoreBytes(t *testing.T) {
	for _, r := range records() {
		s, _ := code.Bytes(r)
		for i := range s {
			bad(t, s[:i])
		}
		for _, more := range []string{"\x00", "\x01", "\xff", "a", "\x00\x00\x01a\x00", s} {
			bad(t, s+more)
		}
		if len(s) > 8 {
			bad(t, s[1:])
		}
	}
}

// As many writes as are there, told to be fewer and more.
func TestTakeOfAnotherCount(t *testing.T) {
	for _, n := range []int{0, 1, 2, 20, api.MaxRooms - 1, api.MaxRooms} {
		s := recordBytes(mixed(1, n))
		for told := range 2 * api.MaxRooms {
			if is := taken(t, s[:4]+four(told)+s[8:]); is != (told == n) {
				t.Errorf("%d writes, told to be %d", n, told)
			}
		}
	}
}

// With one byte turned: the record whose bytes these just are, where there is
// one.
func TestTakeOfOneByteTurned(t *testing.T) {
	for _, r := range []api.Record{of(1), of(api.MaxNum), of(1, put(0, "a", "")), of(1, gone(0, "a")), of(300, put(1, "ab", "cd"), gone(2, "efg"), put(0, "\x00", "")), full(2), mixed(5, 9), of(5, put(0, "\x00\x00\x01", "\x00\x00\x01"))} {
		s := []byte(recordBytes(r))
		is := 0
		for at := range s {
			was := s[at]
			for b := range 256 {
				s[at] = byte(b)
				if taken(t, string(s)) {
					is++
				}
			}
			s[at] = was
		}
		// the record itself at each place, and some other one at some place
		if is <= len(s) {
			t.Errorf("%v: %d", r, is)
		}
	}
}

// P17.1: Sectors.

func TestSectors(t *testing.T) {
	const first = "\x00\x0a\x0b\x0c\x00\x00\x00\x03"
	for i, c := range []struct {
		r      api.Record
		run, n int
		want   []string
	}{
		{of(1), 0, 0, []string{strings.Repeat("\x00", 10) + "\x01\x08\x00\x00\x00\x01" + strings.Repeat("\x00", 16)}},
		{of(api.MaxNum), api.MaxNum, api.MaxNum, []string{"\x40\x00\x00\x00\x40\x00\x00\x00\x00\x00\x01\x08\x40\x00\x00\x00" + strings.Repeat("\x00", 16)}},
		{of(7, put(0, "k", "vvvvvvvvvv")), 0x0a0b0c, 3, []string{first + "\x00\x00\x00\x14\x00\x00\x00\x07\x00\x00\x00\x01\x00\x00\x01k\x0avvvvvvv", first + "\x00\x01\x01\x03vvv" + strings.Repeat("\x00", 17)}},
		{of(7, put(0, "k", "vvvvvvv")), 0x0a0b0c, 3, []string{first + "\x00\x00\x01\x14\x00\x00\x00\x07\x00\x00\x00\x01\x00\x00\x01k\x07vvvvvvv"}},
		{of(7, put(0, "k", "vvvvvvvv")), 0x0a0b0c, 3, []string{first + "\x00\x00\x00\x14\x00\x00\x00\x07\x00\x00\x00\x01\x00\x00\x01k\x08vvvvvvv", first + "\x00\x01\x01\x01v" + strings.Repeat("\x00", 19)}},
		{of(7, put(0, "k", "vvvvvv")), 0x0a0b0c, 3, []string{first + "\x00\x00\x01\x13\x00\x00\x00\x07\x00\x00\x00\x01\x00\x00\x01k\x06vvvvvv\x00"}},
		{of(7, put(0, "k", "vvvvv\x00")), 0x0a0b0c, 3, []string{first + "\x00\x00\x01\x13\x00\x00\x00\x07\x00\x00\x00\x01\x00\x00\x01k\x06vvvvv\x00\x00"}},
	} {
		if l, e := code.Sectors(c.r, c.run, c.n); !slices.Equal(l, c.want) || e != api.OK {
			t.Errorf("%d: %q, %v", i, l, e)
		}
	}
}

// As many bytes as just fill sectors, one fewer, one more.
func TestSectorsJustFull(t *testing.T) {
	for sectors := 1; sectors <= 5; sectors++ {
		for _, c := range []struct{ bytes, many, last int }{{20*sectors - 1, sectors, 19}, {20 * sectors, sectors, 20}, {20*sectors + 1, sectors + 1, 1}} {
			r := heavy(4, c.bytes)
			s, _ := code.Bytes(r)
			l, e := code.Sectors(r, 1, 2)
			if len(s) != c.bytes || e != api.OK || len(l) != c.many {
				t.Fatalf("%d: %q, %q, %v", c.bytes, s, l, e)
			}
			for place, x := range l {
				want := head{1, 2, place, 0, 20}
				if place == c.many-1 {
					want = head{1, 2, place, 1, c.last}
				}
				if len(x) != api.Sector || headOf(x) != want {
					t.Errorf("%d: %d: %q", c.bytes, place, x)
				}
			}
			x, many, f := code.Read(l, 1, 2)
			if len(x) != 1 || !same(x[0], r) || many != c.many || f != api.OK {
				t.Errorf("%d: %v, %d, %v", c.bytes, x, many, f)
			}
		}
	}
}

// The place goes beyond 99.
func TestSectorsOfTheLongestRecord(t *testing.T) {
	l, e := code.Sectors(full(api.MaxRooms), 5, 6)
	if len(l) != 116 || e != api.OK {
		t.Fatalf("%d, %v", len(l), e)
	}
	for place, x := range l {
		want := head{5, 6, place, 0, 20}
		if place == 115 {
			want = head{5, 6, 115, 1, 12}
		}
		if headOf(x) != want || x[8:10] != "\x00"+one(place) {
			t.Errorf("%d: %q", place, x)
		}
	}
	if x, many, e := code.Read(l, 5, 6); len(x) != 1 || !same(x[0], full(api.MaxRooms)) || many != 116 || e != api.OK {
		t.Errorf("%v, %d, %v", x, many, e)
	}
}

func TestSectorsOfManyRunsAndNumbers(t *testing.T) {
	for _, r := range []api.Record{of(1), heavy(2, 20), heavy(3, 41), mixed(4, 30)} {
		for _, run := range numbers() {
			for _, n := range numbers() {
				if l, e := code.Sectors(r, run, n); !slices.Equal(l, recordSectors(r, run, n)) || e != api.OK {
					t.Errorf("%d, %d: %q, %v", run, n, l, e)
				}
			}
		}
	}
}

// P17.1, P17.2: runs and numbers that may not be, and both; with a record that
// may be and one that may not be, with sectors and without.
func TestRunsAndNumbersThatMayNotBe(t *testing.T) {
	all := append(numbers(), badNumbers()...)
	for _, run := range all {
		for _, n := range all {
			if slices.Contains(numbers(), run) && slices.Contains(numbers(), n) {
				continue
			}
			for _, r := range []api.Record{of(1), mixed(3, 20), {}, full(api.MaxRooms + 1)} {
				if l, e := code.Sectors(r, run, n); len(l) != 0 || e != api.ErrForm {
					t.Errorf("%d, %d: %q, %v", run, n, l, e)
				}
			}
			for _, l := range [][]string{nil, recordSectors(of(1), run, n), recordSectors(mixed(3, 20), 1, 1), {"", "x"}} {
				if x, many, e := code.Read(l, run, n); len(x) != 0 || many != 0 || e != api.ErrForm {
					t.Errorf("%d, %d: %v, %d, %v", run, n, x, many, e)
				}
			}
		}
	}
}
