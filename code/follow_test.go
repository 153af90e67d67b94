package code_test

import (
	"slices"
	"strings"
	"testing"

	"quorum/api"
	"quorum/code"
)

// P17.3

// behind are texts of all kinds, also such as go on where a record ended: what
// lies behind its sectors changes nothing.
func behind(l []string, run, n int) [][]string {
	all := [][]string{nil, {""}, {"x"}, {strings.Repeat("\x00", api.Sector)}, {strings.Repeat("\xff", api.Sector)}, {strings.Repeat("x", 5000)}, l, l[len(l)-1:], l[:1]}
	for _, next := range []api.Record{of(1), mixed(2, 9)} {
		s := recordSectors(next, run, n+1)
		all = append(all, s, s[:len(s)-1], s[len(s)-1:], recordSectors(next, run+1, n+1), recordSectors(next, run, n), recordSectors(next, run, n+2), slices.Concat(s, l))
	}
	return append(all, []string{sector(run, n, len(l), 0, 20, long(20)), sector(run, n, len(l)+1, 1, 1, "x")}, []string{sector(run, n, len(l), 1, 0, "")})
}

func TestReadOfSectorsIsTheRecord(t *testing.T) {
	for _, r := range records() {
		for _, run := range []int{0, 1, 0x01020304, api.MaxNum} {
			for _, n := range []int{0, 1, 0x01020304, api.MaxNum - 1, api.MaxNum} {
				l, e := code.Sectors(r, run, n)
				if e != api.OK {
					t.Fatalf("%d, %d: %v", run, n, e)
				}
				for i, more := range behind(l, run, n) {
					x, many, e := code.Read(slices.Concat(l, more), run, n)
					if e != api.OK || len(x) == 0 || !same(x[0], r) || many < len(l) || len(x) == 1 && many != len(l) {
						t.Fatalf("%d, %d, %d: %v, %d, %v, not %v", run, n, i, x, many, e, r)
					}
				}
			}
		}
	}
}

// Sectors of records, one behind the other, lead to all of them; behind one that
// is not there whole, to those ahead of it.
func TestReadOfManySectors(t *testing.T) {
	all := records()
	for from := 0; from+4 <= len(all); from += 3 {
		var l []string
		var ends []int
		for i, r := range all[from : from+4] {
			s, _ := code.Sectors(r, 7, api.MaxNum-3+i)
			l = append(l, s...)
			ends = append(ends, len(l))
		}
		for at := range len(l) {
			whole := 0
			for whole < len(ends) && ends[whole] <= at {
				whole++
			}
			many := 0
			if whole > 0 {
				many = ends[whole-1]
			}
			x, took, e := code.Read(slices.Delete(slices.Clone(l), at, at+1), 7, api.MaxNum-3)
			if !sameAll(x, all[from:from+whole]) || took != many || e != api.OK {
				t.Fatalf("from %d, without %d: %v, %d, %v", from, at, x, took, e)
			}
		}
		x, took, e := code.Read(l, 7, api.MaxNum-3)
		if !sameAll(x, all[from:from+4]) || took != len(l) || e != api.OK {
			t.Fatalf("from %d: %v, %d, %v", from, x, took, e)
		}
	}
}

func TestWithoutOneSectorItIsNotTold(t *testing.T) {
	for _, r := range records() {
		l, _ := code.Sectors(r, 3, 8)
		for at := range l {
			for _, instead := range [][]string{nil, {""}, {strings.Repeat("\x00", api.Sector)}, {l[(at+1)%len(l)]}} {
				if len(l) == 1 && len(instead) == 1 && instead[0] == l[0] {
					continue
				}
				if x, many, e := code.Read(slices.Concat(l[:at], instead, l[at+1:]), 3, 8); len(x) != 0 || many != 0 || e != api.OK {
					t.Fatalf("%v: without %d: %v, %d, %v", r, at, x, many, e)
				}
			}
		}
	}
}

func TestOfAnotherRunOrNumberNothingIsTold(t *testing.T) {
	for _, r := range records() {
		for _, at := range [][2]int{{0, 0}, {3, 8}, {api.MaxNum, api.MaxNum}} {
			l, _ := code.Sectors(r, at[0], at[1])
			for _, other := range [][2]int{{0, 1}, {1, 0}, {3, 7}, {3, 9}, {2, 8}, {4, 8}, {8, 3}, {3 << 8, 8}, {3, 8 << 8}, {api.MaxNum, api.MaxNum - 1}, {api.MaxNum - 1, api.MaxNum}, {api.MaxNum, 0}, {0, api.MaxNum}} {
				if x, many, e := code.Read(l, other[0], other[1]); len(x) != 0 || many != 0 || e != api.OK {
					t.Fatalf("%v, not %v: %v, %d, %v", other, at, x, many, e)
				}
			}
		}
	}
}

// No two records have the same bytes, and no bytes begin with another record's.
func TestBytesAreUnlike(t *testing.T) {
	all := records()
	for i, a := range all {
		x, _ := code.Bytes(a)
		for j, b := range all {
			y, _ := code.Bytes(b)
			if i != j && !same(a, b) && strings.HasPrefix(y, x) {
				t.Fatalf("%v, %v: %q, %q", a, b, x, y)
			}
		}
	}
}
