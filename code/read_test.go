package code_test

import (
	"slices"
	"strings"
	"testing"

	"quorum/api"
	"quorum/code"
)

// P17.2

const (
	theRun    = 9
	theNumber = 4
)

// log is records, one behind the other, as sectors of theRun.
func log(l ...api.Record) []string {
	var all []string
	for i, r := range l {
		all = append(all, recordSectors(r, theRun, theNumber+i)...)
	}
	return all
}

// reads holds Read of theRun and theNumber to what is wanted, and to the words
// of the chapter.
func reads(t *testing.T, what string, l []string, want []api.Record, many int) {
	t.Helper()
	x, n, e := code.Read(l, theRun, theNumber)
	if !sameAll(x, want) || n != many || e != api.OK {
		t.Errorf("%s: %v, %d, %v, not %v, %d", what, x, n, e, want, many)
	}
	asInWords(t, l, theRun, theNumber)
}

func asInWords(t *testing.T, l []string, run, number int) {
	t.Helper()
	want, wantMany := readAll(l, run, number)
	if x, many, e := code.Read(l, run, number); !sameAll(x, want) || many != wantMany || e != api.OK {
		t.Errorf("%q, %d, %d: %v, %d, %v, not %v, %d", l, run, number, x, many, e, want, wantMany)
	}
}

// of one, two and three sectors, and of two that are just full.
func single() api.Record { return of(5, put(0, "a", "1")) }

func double() api.Record { return of(3, put(1, "key", "value"), gone(2, "z"), put(0, "b", "")) }

func triple() api.Record { return of(8, put(2, "long", long(20)), put(0, "m", long(9))) }

func even() api.Record { return heavy(6, 40) }

func size(r api.Record) int { return len(recordSectors(r, 0, 0)) }

func TestSizes(t *testing.T) {
	for want, r := range map[int]api.Record{1: single(), 2: double(), 3: triple()} {
		if size(r) != want {
			t.Errorf("%v: %d", r, size(r))
		}
	}
	if size(even()) != 2 || len(recordBytes(even())) != 40 {
		t.Errorf("%v", even())
	}
}

// others are texts that may stand behind what is read.
func others() map[string][]string {
	zero := strings.Repeat("\x00", api.Sector)
	return map[string][]string{
		"nothing": nil, "an empty text": {""}, "empty texts": {"", "", ""}, "a short one": {"x"}, "zeros": {zero, zero}, "all ones": {strings.Repeat("\xff", api.Sector)},
		"of another run": recordSectors(double(), theRun-1, theNumber+1), "of a number that was": recordSectors(double(), theRun, theNumber-1), "without the begin": recordSectors(triple(), theRun, theNumber+1)[1:],
		"a long one": {zero + zero}, "many bytes": {strings.Repeat("x", 5000)},
	}
}

func TestReadOfOne(t *testing.T) {
	for _, r := range records() {
		for name, more := range others() {
			reads(t, name, slices.Concat(log(r), more), []api.Record{r}, size(r))
		}
	}
}

func TestReadOfNothing(t *testing.T) {
	for name, l := range others() {
		reads(t, name, l, nil, 0)
	}
	reads(t, "no texts", []string{}, nil, 0)
	for _, run := range numbers() {
		for _, n := range numbers() {
			if x, many, e := code.Read(nil, run, n); len(x) != 0 || many != 0 || e != api.OK {
				t.Errorf("%d, %d: %v, %d, %v", run, n, x, many, e)
			}
		}
	}
	zero := strings.Repeat("\x00", api.Sector)
	if x, many, e := code.Read([]string{zero, zero}, 0, 0); len(x) != 0 || many != 0 || e != api.OK {
		t.Errorf("%v, %d, %v", x, many, e)
	}
}

// Several, one behind the other, of all sizes in each order.
func TestReadOfMany(t *testing.T) {
	kinds := []api.Record{of(1), single(), double(), triple(), even(), of(5, put(0, "a", "1"), put(0, "a", "1"))}
	for _, a := range kinds {
		for _, b := range kinds {
			for _, c := range kinds {
				all := []api.Record{a, b, c}
				many := size(a) + size(b) + size(c)
				reads(t, "three", log(all...), all, many)
				reads(t, "three, and zeros", append(log(all...), strings.Repeat("\x00", api.Sector)), all, many)
				reads(t, "one and a part", log(all...)[:size(a)+size(b)-1], all[:1], size(a))
			}
		}
	}
}

// All records there are, from the first one and from each other one on.
func TestReadOfAll(t *testing.T) {
	all := records()
	l := log(all...)
	reads(t, "all", l, all, len(l))
	at := 0
	for i, r := range all {
		x, many, e := code.Read(l[at:], theRun, theNumber+i)
		if !sameAll(x, all[i:]) || many != len(l)-at || e != api.OK {
			t.Fatalf("from %d on: %d, %d, %v", i, len(x), many, e)
		}
		if x, many, e := code.Read(l[at:], theRun, theNumber+i+1); len(x) != 0 || many != 0 || e != api.OK {
			t.Fatalf("from %d on, of the number behind: %d, %d, %v", i, len(x), many, e)
		}
		at += size(r)
	}
}

// However many texts there are: of what is there whole, all.
func TestReadOfFewer(t *testing.T) {
	all := []api.Record{triple(), single(), even(), of(1), double()}
	l := log(all...)
	for n := range len(l) + 1 {
		whole, many := 0, 0
		for whole < len(all) && many+size(all[whole]) <= n {
			many += size(all[whole])
			whole++
		}
		reads(t, "the first ones", l[:n], all[:whole], many)
	}
}

// A record behind that of MaxNum would be of a number that none has.
func TestReadOfTheLastNumber(t *testing.T) {
	for _, r := range []api.Record{of(1), double(), triple()} {
		l := slices.Concat(recordSectors(r, 1, api.MaxNum-1), recordSectors(r, 1, api.MaxNum), recordSectors(r, 1, api.MaxNum+1), recordSectors(r, 1, 0), recordSectors(r, 1, api.MaxNum))
		one := size(r)
		for _, c := range []struct {
			l       []string
			n, want int
		}{{l, api.MaxNum - 1, 2}, {l[one:], api.MaxNum, 1}, {l[one : 2*one], api.MaxNum, 1}, {l, api.MaxNum, 0}, {l[2*one:], api.MaxNum, 0}, {nil, api.MaxNum, 0}} {
			x, many, e := code.Read(c.l, 1, c.n)
			if len(x) != c.want || many != c.want*one || e != api.OK || !sameAll(x, slices.Repeat([]api.Record{r}, c.want)) {
				t.Errorf("%d: %v, %d, %v", c.n, x, many, e)
			}
		}
	}
}

// Runs and numbers that are alike but for a byte.
func TestReadOfOtherRunsAndNumbers(t *testing.T) {
	all := []int{0, 1, 2, 255, 256, 257, 1 << 16, 1 << 24, api.MaxNum - 1, api.MaxNum}
	for _, run := range all {
		for _, n := range all {
			l := recordSectors(double(), run, n)
			for _, askedRun := range all {
				for _, asked := range all {
					want, many := []api.Record(nil), 0
					if askedRun == run && asked == n {
						want, many = []api.Record{double()}, 2
					}
					if x, took, e := code.Read(l, askedRun, asked); !sameAll(x, want) || took != many || e != api.OK {
						t.Fatalf("%d, %d, not %d, %d: %v, %d, %v", askedRun, asked, run, n, x, took, e)
					}
				}
			}
		}
	}
}

// spoilt tries something at each sector of each record in a log of three: those
// ahead of the record are read, it and those behind it are not.
func spoilt(t *testing.T, what string, change func(l []string, at int) []string) {
	t.Helper()
	all := []api.Record{triple(), even(), double()}
	ahead := 0
	for i, r := range all {
		for at := ahead; at < ahead+size(r); at++ {
			reads(t, what, change(log(all...), at), all[:i], ahead)
		}
		ahead += size(r)
	}
}

func TestReadWhereASectorIsNot(t *testing.T) {
	zero := strings.Repeat("\x00", api.Sector)
	spoilt(t, "lost", func(l []string, at int) []string { return slices.Delete(l, at, at+1) })
	spoilt(t, "0", func(l []string, at int) []string { l[at] = zero; return l })
	spoilt(t, "empty", func(l []string, at int) []string { l[at] = ""; return l })
	spoilt(t, "something ahead of it", func(l []string, at int) []string { return slices.Insert(l, at, zero) })
	spoilt(t, "nothing ahead of it", func(l []string, at int) []string { return slices.Insert(l, at, "") })
	for size := range api.Sector {
		spoilt(t, "shorter", func(l []string, at int) []string { l[at] = l[at][:size]; return l })
	}
	for _, more := range []string{"\x00", "x", zero} {
		spoilt(t, "longer", func(l []string, at int) []string { l[at] += more; return l })
	}
	spoilt(t, "from its second byte on", func(l []string, at int) []string { l[at] = l[at][1:] + "\x00"; return l })
}

func TestReadWhereASectorIsAnothers(t *testing.T) {
	for _, run := range []int{0, theRun - 1, theRun + 1, theRun << 8, api.MaxNum} {
		other := slices.Concat(recordSectors(triple(), run, theNumber), recordSectors(even(), run, theNumber+1), recordSectors(double(), run, theNumber+2))
		spoilt(t, "of another run", func(l []string, at int) []string { l[at] = other[at]; return l })
	}
	for _, more := range []int{-4, -1, 1, 3, 256} {
		other := slices.Concat(recordSectors(triple(), theRun, theNumber+more), recordSectors(even(), theRun, theNumber+1+more), recordSectors(double(), theRun, theNumber+2+more))
		spoilt(t, "of another number", func(l []string, at int) []string { l[at] = other[at]; return l })
	}
	for from := range log(triple(), even(), double()) {
		spoilt(t, "another one of the log", func(l []string, at int) []string {
			l[at] = l[(at+1+from%(len(l)-1))%len(l)]
			return l
		})
	}
}

// Where one stands twice, what is read is what lies ahead of where it was not
// expected.
func TestReadWhereASectorStandsTwice(t *testing.T) {
	all := []api.Record{triple(), even(), double()}
	for at := range log(all...) {
		l := log(all...)
		twice := slices.Insert(slices.Clone(l), at, l[at])
		want := map[int]int{3: 1, 4: 1, 5: 2, 6: 2, 7: 3}[at+1]
		reads(t, "twice", twice, all[:want], []int{0, 3, 5, 7}[want])
	}
}

func TestReadWhereTwoAreSwapped(t *testing.T) {
	all := []api.Record{triple(), even(), double()}
	starts := []int{0, 0, 0, 1, 1, 2, 2}
	for at := range starts {
		for with := at + 1; with < len(starts); with++ {
			l := log(all...)
			l[at], l[with] = l[with], l[at]
			reads(t, "swapped", l, all[:starts[at]], []int{0, 3, 5}[starts[at]])
		}
	}
}

// Each byte of each sector turned into each other one. Of a part's bytes it may
// be another record; of a head's, or of what is filled with 0, nothing.
func TestReadWhereAByteIsAnotherOne(t *testing.T) {
	all := []api.Record{single(), double()}
	good := log(all...)
	for at, s := range good {
		for place := range api.Sector {
			for b := range 256 {
				if byte(b) == s[place] {
					continue
				}
				l := slices.Clone(good)
				l[at] = s[:place] + one(b) + s[place+1:]
				asInWords(t, l, theRun, theNumber)
				isPart := place >= 12 && place < 12+headOf(s).size
				if x, many, _ := code.Read(l, theRun, theNumber); !isPart && (len(x) != min(at, 1) || many != len(x)) || sameAll(x, all) {
					t.Fatalf("sector %d, byte %d: %d: %v, %d", at, place, b, x, many)
				}
			}
		}
	}
}

// What is filled with 0, and what the head tells, of parts of all lengths.
func TestReadOfHeadsAndFilling(t *testing.T) {
	for bytes := 13; bytes <= 61; bytes++ {
		good := log(heavy(2, bytes))
		last := good[len(good)-1]
		for place := range api.Sector {
			if place >= 12 && place < 12+headOf(last).size {
				continue
			}
			for _, flip := range []byte{1, 2, 128, 255} {
				l := slices.Clone(good)
				l[len(l)-1] = last[:place] + one(int(last[place]^flip)) + last[place+1:]
				reads(t, "another byte", l, nil, 0)
			}
		}
	}
}

// Parts of other lengths than a record is cut into, also such that together are
// just its bytes.
func TestReadOfOtherParts(t *testing.T) {
	for _, r := range []api.Record{of(1), single(), double(), triple(), even(), heavy(3, 20), heavy(3, 60), heavy(3, 61)} {
		s := recordBytes(r)
		for size := 1; size < 20; size++ {
			l := laidOut(partsOf(s, size), theRun, theNumber)
			if len(l) == 1 {
				continue
			}
			reads(t, "shorter parts", l, nil, 0)
		}
		for at := range s {
			if at == 20 {
				continue
			}
			rest := partsOf(s[at:], 20)
			reads(t, "a shorter part first", laidOut(slices.Concat([]string{s[:at]}, rest), theRun, theNumber), nil, 0)
		}
		whole := partsOf(s, 20)
		for at := range len(whole) + 1 {
			reads(t, "an empty part more", laidOut(slices.Insert(slices.Clone(whole), at, ""), theRun, theNumber), nil, 0)
		}
		if last := whole[len(whole)-1]; len(last) < 20 {
			whole[len(whole)-1] = last + "\x00"
			reads(t, "a byte more", laidOut(whole, theRun, theNumber), nil, 0)
		}
	}
	reads(t, "an empty one", []string{sector(theRun, theNumber, 0, 1, 0, "")}, nil, 0)
}

// The part's length beyond what a part has, and as if the part went on behind
// the sector.
func TestReadOfTooLongAPart(t *testing.T) {
	for _, r := range []api.Record{single(), double(), heavy(3, 20), heavy(3, 40)} {
		good := log(r)
		for at := range good {
			for size := range 256 {
				if size == headOf(good[at]).size {
					continue
				}
				l := slices.Clone(good)
				l[at] = l[at][:11] + one(size) + l[at][12:]
				reads(t, "another length", l, nil, 0)
			}
		}
	}
}

// The last one is marked too early, too late, or not at all; as something else
// than 0 and 1.
func TestReadOfOtherMarks(t *testing.T) {
	all := []api.Record{triple(), even(), double()}
	for at := range log(all...) {
		for mark := range 256 {
			l := log(all...)
			if int(l[at][10]) == mark {
				continue
			}
			l[at] = l[at][:10] + one(mark) + l[at][11:]
			whole := []int{0, 0, 0, 1, 1, 2, 2}[at]
			reads(t, "another mark", l, all[:whole], []int{0, 3, 5}[whole])
		}
	}
	none := log(all...)
	for at, s := range none {
		none[at] = s[:10] + "\x00" + s[11:]
	}
	reads(t, "none is marked", none, nil, 0)
}

// An early mark where what lies ahead of it is a record by itself: the sectors
// up to it are that one's.
func TestReadOfAnEarlyMarkBehindARecord(t *testing.T) {
	parts := []string{recordBytes(heavy(3, 20)), "more"}
	l := laidOut(parts, theRun, theNumber)
	reads(t, "not marked", l, nil, 0)
	l[0] = l[0][:10] + "\x01" + l[0][11:]
	reads(t, "marked", l, []api.Record{heavy(3, 20)}, 1)
}

// Sectors as they should be, of parts that together are no record's bytes.
func TestReadOfWhatIsNoRecord(t *testing.T) {
	ahead := []api.Record{double(), single()}
	for _, s := range []string{
		"\x00", strings.Repeat("\x00", 8), strings.Repeat("\x00", 20), long(20), long(40), "\x00\x00\x00\x00\x00\x00\x00\x01\x00\x00\x01a\x00", "\x40\x00\x00\x01\x00\x00\x00\x00", "\x00\x00\x00\x01\xff\xff\xff\xff", oneWrite[:12], oneWrite + "\x00", oneWrite + oneWrite,
		recordBytes(double())[:29], recordBytes(of(1, put(3, "a", "v"))), recordBytes(of(1, put(0, "a", long(21)))), recordBytes(of(1, put(0, long(13), "v"))), recordBytes(of(1, put(0, "", "v"))), recordBytes(full(api.MaxRooms + 1)),
		four(1) + four(1<<16) + strings.Repeat("\x00\x00\x01a\x00", 1<<16),
	} {
		reads(t, "first", laidOut(partsOf(s, 20), theRun, theNumber), nil, 0)
		reads(t, "behind others", append(log(ahead...), laidOut(partsOf(s, 20), theRun, theNumber+2)...), ahead, 3)
		reads(t, "ahead of others", append(laidOut(partsOf(s, 20), theRun, theNumber), log(ahead...)...), nil, 0)
	}
}

// More sectors than places can tell, of which none, or the last one, is marked.
func TestReadOfTooManySectors(t *testing.T) {
	const many = 1<<16 + 5
	for _, last := range []int{0, 1} {
		l := make([]string, many)
		for place := range l {
			l[place] = sector(theRun, theNumber, place, 0, 20, long(20))
		}
		l[0] = sector(theRun, theNumber, 0, 0, 20, recordBytes(full(1))[:20])
		l[many-1] = sector(theRun, theNumber, many-1, last, 20, long(20))
		reads(t, "too many", l, nil, 0)
	}
}

func TestReadOfAGap(t *testing.T) {
	a, b, c := double(), single(), triple()
	first, second, third := recordSectors(a, theRun, theNumber), recordSectors(b, theRun, theNumber+1), recordSectors(c, theRun, theNumber+2)
	reads(t, "none left out", slices.Concat(first, second, third), []api.Record{a, b, c}, 6)
	reads(t, "the first one left out", slices.Concat(second, third), nil, 0)
	reads(t, "the second one left out", slices.Concat(first, third), []api.Record{a}, 2)
	reads(t, "the third one left out", slices.Concat(first, second), []api.Record{a, b}, 3)
	reads(t, "one twice", slices.Concat(first, first, second), []api.Record{a}, 2)
	reads(t, "falling", slices.Concat(second, first), nil, 0)
	reads(t, "of one number", slices.Concat(first, recordSectors(b, theRun, theNumber)), []api.Record{a}, 2)
	reads(t, "another run amid", slices.Concat(first, recordSectors(b, theRun+1, theNumber+1), third), []api.Record{a}, 2)
}

// Logs with things done to them, one behind the other, and lists of sectors
// drawn from a few, held to the words of the chapter.
func TestReadOfMangledLogs(t *testing.T) {
	seed := uint32(1)
	draw := func(n int) int {
		seed ^= seed << 13
		seed ^= seed >> 17
		seed ^= seed << 5
		return int(seed % uint32(n))
	}
	told := map[int]int{}
	for range 20000 {
		l := log(triple(), of(1), even(), double())
		for range draw(3) {
			at := draw(len(l))
			switch draw(4) {
			case 0:
				l = slices.Delete(l, at, at+1)
			case 1:
				l[at] = l[draw(len(l))]
			case 2:
				place := draw(api.Sector)
				if len(l[at]) == api.Sector {
					l[at] = l[at][:place] + one(draw(4)) + l[at][place+1:]
				}
			case 3:
				l[at] = l[at][:draw(len(l[at])+1)]
			}
		}
		asInWords(t, l, theRun, theNumber)
		x, _, _ := code.Read(l, theRun, theNumber)
		told[len(x)]++
	}
	for n := range 5 {
		if told[n] == 0 {
			t.Errorf("no log of which %d are read: %v", n, told)
		}
	}
}
