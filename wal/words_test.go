package wal_test

import (
	"encoding/binary"
	"fmt"
	"maps"
	"slices"
	"strings"

	"quorum/api"
)

// The words of the chapters, gone through anew, to hold the calls against: by
// bytes, and by maps of keys, where the calls go by records and sorted lists.

func mapMayBe(m [][]api.Row) bool {
	for _, rows := range m {
		for i, r := range rows {
			if len(r.Key) < 1 || len(r.Key) > 12 || len(r.Value) > 20 || i > 0 && rows[i-1].Key >= r.Key {
				return false
			}
		}
	}
	return len(m) <= 3
}

func walMayBe(w api.Wal) bool {
	return 1 <= w.Run && w.Run <= 1<<30-1 && 0 <= w.Slot && w.Slot <= 1 && 255 <= w.At && w.At <= 512 && 1 <= w.Seq && w.Seq <= 1<<30-1
}

func recordMayBe(r api.Record, tables int) bool {
	for _, w := range r.Writes {
		if w.Table < 0 || w.Table >= tables || len(w.Key) < 1 || len(w.Key) > 12 || len(w.Value) > 20 || w.Gone && w.Value != "" {
			return false
		}
	}
	return r.Commit >= 1 && r.Commit <= 1<<30 && len(r.Writes) <= 64
}

func tapeMayBe(x api.Tape) bool {
	for _, s := range x.Sectors {
		if len(s) != 32 {
			return false
		}
	}
	return len(x.Sectors) == 512 && len(x.Waits) == 0
}

func four(n int) string { return string(binary.BigEndian.AppendUint32(nil, uint32(n))) }

func one(n int) string { return string([]byte{byte(n)}) }

func writeBytes(w api.Write) string {
	isGone := 0
	if w.Gone {
		isGone = 1
	}
	return one(w.Table) + one(isGone) + one(len(w.Key)) + w.Key + one(len(w.Value)) + w.Value
}

func recordBytes(r api.Record) string {
	s := four(r.Commit) + four(len(r.Writes))
	for _, w := range r.Writes {
		s += writeBytes(w)
	}
	return s
}

// sector is one of any fields, that may be or not.
func sector(run, number, place, last int, part string) string {
	s := four(run) + four(number) + four(place)[2:] + one(last) + one(len(part)) + part
	return s + strings.Repeat("\x00", 32-len(s))
}

// laidOut is a record's sectors.
func laidOut(r api.Record, run, number int) []string {
	var l []string
	rest := recordBytes(r)
	for ; len(rest) > 20; rest = rest[20:] {
		l = append(l, sector(run, number, len(l), 0, rest[:20]))
	}
	return append(l, sector(run, number, len(l), 1, rest))
}

func putAt(at int, sectors ...string) []api.Do {
	var l []api.Do
	for i, s := range sectors {
		l = append(l, api.Do{Put: api.Put{At: at + i, Text: s}})
	}
	return l
}

func imageOf(m [][]api.Row) api.Record {
	r := api.Record{Commit: 1}
	for t, rows := range m {
		for _, x := range rows {
			r.Writes = append(r.Writes, api.Write{Table: t, Key: x.Key, Value: x.Value})
		}
	}
	return r
}

// saving is the steps of a save in that run and slot, and the Wal behind it.
func saving(run, slot int, m [][]api.Row) ([]api.Do, api.Wal, api.Errno) {
	if len(imageOf(m).Writes) > 64 {
		return nil, api.Wal{}, api.ErrFull
	}
	l := putAt([]int{1, 128}[slot], laidOut(imageOf(m), run, 0)...)
	l = append(l, api.Do{Sync: true})
	l = append(l, putAt(0, sector(0, run, 0, 1, four(slot+1)+four(0)))...)
	return append(l, api.Do{Sync: true}), api.Wal{Run: run, Slot: slot, At: 255, Seq: 1}, api.OK
}

func formatted(m [][]api.Row) ([]api.Do, api.Wal, api.Errno) {
	if !mapMayBe(m) {
		return nil, api.Wal{}, api.ErrForm
	}
	return saving(1, 0, m)
}

func saved(w api.Wal, m [][]api.Row) ([]api.Do, api.Wal, api.Errno) {
	switch {
	case !mapMayBe(m), !walMayBe(w):
		return nil, api.Wal{}, api.ErrForm
	case w.Run == 1<<30-1:
		return nil, api.Wal{}, api.ErrLimit
	}
	return saving(w.Run+1, []int{1, 0}[w.Slot], m)
}

func added(w api.Wal, r api.Record) ([]api.Do, api.Wal, api.Errno) {
	if !walMayBe(w) || !recordMayBe(r, 3) {
		return nil, api.Wal{}, api.ErrForm
	}
	if w.Seq == 1<<30-1 {
		return nil, api.Wal{}, api.ErrLimit
	}
	l := laidOut(r, w.Run, w.Seq)
	if w.At > 512-len(l) {
		return nil, api.Wal{}, api.ErrFull
	}
	return putAt(w.At, l...), api.Wal{Run: w.Run, Slot: w.Slot, At: w.At + len(l), Seq: w.Seq + 1}, api.OK
}

// bytesReader goes through bytes, and remembers whether there were too few.
type bytesReader struct {
	rest  string
	isBad bool
}

func (x *bytesReader) next(n int) string {
	if len(x.rest) < n {
		x.isBad, x.rest = true, ""
		return strings.Repeat("\x00", n)
	}
	s := x.rest[:n]
	x.rest = x.rest[n:]
	return s
}

func (x *bytesReader) four() int { return int(binary.BigEndian.Uint32([]byte(x.next(4)))) }

func (x *bytesReader) one() int { return int(x.next(1)[0]) }

func recordIn(s string) (api.Record, bool) {
	x := &bytesReader{rest: s}
	r := api.Record{Commit: x.four()}
	for many := x.four(); many > 0 && !x.isBad; many-- {
		w := api.Write{Table: x.one()}
		isGone := x.one()
		w.Gone = isGone == 1
		w.Key = x.next(x.one())
		w.Value = x.next(x.one())
		x.isBad = x.isBad || isGone > 1
		r.Writes = append(r.Writes, w)
	}
	return r, !x.isBad && x.rest == "" && recordMayBe(r, 3)
}

// readOne goes through sectors up to the last one of a record.
func readOne(l []string, run, number int) (r api.Record, many int, is bool) {
	s := ""
	for place, x := range l {
		size, last := int(x[11]), x[10]
		if x[:10] != four(run)+four(number)+four(place)[2:] || last > 1 || size < 1 || size > 20 || last == 0 && size < 20 || strings.Trim(x[12+size:], "\x00") != "" {
			return api.Record{}, 0, false
		}
		s += x[12 : 12+size]
		if last == 1 {
			r, is = recordIn(s)
			return r, place + 1, is
		}
	}
	return api.Record{}, 0, false
}

// imageMap is the map that an image's record tells; its rows' places rise as
// texts of table and key do.
func imageMap(r api.Record, tables int) ([][]api.Row, bool) {
	m := make([][]api.Row, tables)
	was := ""
	for _, w := range r.Writes {
		place := one(w.Table) + w.Key
		if place <= was || w.Gone || w.Table >= tables {
			return nil, false
		}
		m[w.Table] = append(m[w.Table], api.Row{Key: w.Key, Value: w.Value})
		was = place
	}
	return m, r.Commit == 1
}

func opened(x api.Tape, tables int) ([][]api.Row, []api.Record, api.Wal, api.Errno) {
	if !tapeMayBe(x) || tables < 1 || tables > 3 {
		return nil, nil, api.Wal{}, api.ErrForm
	}
	head := x.Sectors[0]
	run := int(binary.BigEndian.Uint32([]byte(head[4:])))
	slot := int(head[15]) - 1
	if run < 1 || run >= 1<<30 || slot < 0 || slot > 1 || head != sector(0, run, 0, 1, four(slot+1)+four(0)) {
		return nil, nil, api.Wal{}, api.ErrBad
	}
	image, _, is := readOne(x.Sectors[1+127*slot:], run, 0)
	m, fits := imageMap(image, tables)
	if !is || !fits {
		return nil, nil, api.Wal{}, api.ErrBad
	}
	var l []api.Record
	w := api.Wal{Run: run, Slot: slot, At: 255, Seq: 1}
	for {
		r, many, is := readOne(x.Sectors[w.At:], run, w.Seq)
		if !is {
			return m, l, w, api.OK
		}
		l = append(l, r)
		w.At, w.Seq = w.At+many, w.Seq+1
	}
}

func mapped(m [][]api.Row, l ...api.Record) ([][]api.Row, api.Errno) {
	if !mapMayBe(m) {
		return nil, api.ErrForm
	}
	tables := make([]map[string]string, len(m))
	for t, rows := range m {
		tables[t] = map[string]string{}
		for _, r := range rows {
			tables[t][r.Key] = r.Value
		}
	}
	for _, r := range l {
		if !recordMayBe(r, len(m)) {
			return nil, api.ErrForm
		}
		for _, w := range r.Writes {
			if delete(tables[w.Table], w.Key); !w.Gone {
				tables[w.Table][w.Key] = w.Value
			}
		}
	}
	x := make([][]api.Row, len(m))
	for t, rows := range tables {
		for _, k := range slices.Sorted(maps.Keys(rows)) {
			x[t] = append(x[t], api.Row{Key: k, Value: rows[k]})
		}
	}
	return x, api.OK
}

func sameMap(a, b [][]api.Row) bool { return slices.EqualFunc(a, b, slices.Equal[[]api.Row]) }

func sameRecord(a, b api.Record) bool {
	return a.Commit == b.Commit && slices.Equal(a.Writes, b.Writes)
}

func sameRecords(a, b []api.Record) bool { return slices.EqualFunc(a, b, sameRecord) }

// short tells the begin of things that may be long.
func short(things ...any) string {
	s := ""
	for _, x := range things {
		s += fmt.Sprintf(" %.600s", fmt.Sprintf("%#v", x))
	}
	return s
}
