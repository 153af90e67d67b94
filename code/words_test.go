package code_test

import (
	"encoding/binary"
	"errors"
	"slices"
	"strings"

	"quorum/api"
)

// The words of the chapter, gone through anew, to hold the calls against.

func writeMayBe(w api.Write) bool {
	return w.Table >= 0 && w.Table <= 2 && len(w.Key) >= 1 && len(w.Key) <= 12 && len(w.Value) <= 20 && (!w.Gone || w.Value == "")
}

func recordMayBe(r api.Record) bool {
	for _, w := range r.Writes {
		if !writeMayBe(w) {
			return false
		}
	}
	return r.Commit >= 1 && r.Commit <= 1<<30 && len(r.Writes) <= 64
}

func four(n int) string { return string(binary.BigEndian.AppendUint32(nil, uint32(n))) }

func one(n int) string { return string([]byte{byte(n)}) }

func writeBytes(w api.Write) string {
	isGone := "\x00"
	if w.Gone {
		isGone = "\x01"
	}
	return one(w.Table) + isGone + one(len(w.Key)) + w.Key + one(len(w.Value)) + w.Value
}

func recordBytes(r api.Record) string {
	s := four(r.Commit) + four(len(r.Writes))
	for _, w := range r.Writes {
		s += writeBytes(w)
	}
	return s
}

// sector is one of any fields, that may be or not.
func sector(run, number, place, last, size int, part string) string {
	s := four(run) + four(number) + string(binary.BigEndian.AppendUint16(nil, uint16(place))) + one(last) + one(size) + part
	return s + strings.Repeat("\x00", max(0, 32-len(s)))
}

// partsOf are bytes cut into parts of so many.
func partsOf(s string, size int) []string {
	var l []string
	for len(s) > size {
		l, s = append(l, s[:size]), s[size:]
	}
	return append(l, s)
}

func laidOut(parts []string, run, number int) []string {
	var l []string
	for place, part := range parts {
		last := 0
		if place == len(parts)-1 {
			last = 1
		}
		l = append(l, sector(run, number, place, last, len(part), part))
	}
	return l
}

func recordSectors(r api.Record, run, number int) []string {
	return laidOut(partsOf(recordBytes(r), 20), run, number)
}

var errBytes = errors.New("not a record's bytes")

// reader goes through bytes, and remembers whether there was one too few.
type reader struct {
	s   string
	err error
}

func (x *reader) next(n int) string {
	if len(x.s) < n {
		x.err, x.s = errBytes, ""
		return strings.Repeat("\x00", n)
	}
	s := x.s[:n]
	x.s = x.s[n:]
	return s
}

func (x *reader) four() int { return int(binary.BigEndian.Uint32([]byte(x.next(4)))) }

func (x *reader) one() int { return int(x.next(1)[0]) }

// record goes through the bytes, and asks of each whether it may be.
func record(s string) (api.Record, error) {
	x := &reader{s: s}
	r := api.Record{Commit: x.four()}
	for many := x.four(); many > 0 && x.err == nil; many-- {
		w := api.Write{Table: x.one()}
		isGone := x.one()
		w.Gone = isGone == 1
		w.Key = x.next(x.one())
		w.Value = x.next(x.one())
		if isGone > 1 {
			return api.Record{}, errBytes
		}
		r.Writes = append(r.Writes, w)
	}
	if x.err != nil || x.s != "" || !recordMayBe(r) {
		return api.Record{}, errBytes
	}
	return r, nil
}

// head is what a sector's first bytes tell.
type head struct{ run, number, place, last, size int }

func headOf(s string) head {
	b := []byte(s)
	return head{int(binary.BigEndian.Uint32(b)), int(binary.BigEndian.Uint32(b[4:])), int(binary.BigEndian.Uint16(b[8:])), int(b[10]), int(b[11])}
}

// readOne goes through the sectors, and asks of each field whether it may be.
func readOne(l []string, run, number int) (api.Record, int, error) {
	var s []byte
	for place, x := range l {
		if len(x) != 32 {
			return api.Record{}, 0, errBytes
		}
		h := headOf(x)
		if h.run != run || h.number != number || h.place != place || h.last > 1 || h.size > 20 || h.size < 1 || h.last == 0 && h.size < 20 {
			return api.Record{}, 0, errBytes
		}
		if strings.Trim(x[12+h.size:], "\x00") != "" {
			return api.Record{}, 0, errBytes
		}
		s = append(s, x[12:12+h.size]...)
		if h.last == 1 {
			r, err := record(string(s))
			return r, place + 1, err
		}
	}
	return api.Record{}, 0, errBytes
}

func readAll(l []string, run, number int) ([]api.Record, int) {
	var all []api.Record
	many := 0
	for ; number <= 1<<30; number++ {
		r, took, err := readOne(l[many:], run, number)
		if err != nil {
			break
		}
		all = append(all, r)
		many += took
	}
	return all, many
}

func same(a, b api.Record) bool { return a.Commit == b.Commit && slices.Equal(a.Writes, b.Writes) }

func sameAll(a, b []api.Record) bool { return slices.EqualFunc(a, b, same) }

func isZero(r api.Record) bool { return r.Commit == 0 && len(r.Writes) == 0 }
