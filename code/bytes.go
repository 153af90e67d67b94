package code

import "strings"

// wide is how many bytes a number has.
const wide = 4

// sink is bytes that come one behind the other.
type sink struct{ bytes []byte }

// number adds the last bytes of n, as many as width tells, the highest first.
func (x *sink) number(n, width int) {
	for at := width - 1; at >= 0; at-- {
		x.bytes = append(x.bytes, byte(n>>(8*at)))
	}
}

func (x *sink) flag(is bool) {
	n := 0
	if is {
		n = 1
	}
	x.number(n, 1)
}

func (x *sink) text(s string) {
	x.number(len(s), 1)
	x.bytes = append(x.bytes, s...)
}

func (x *sink) fill(size int) {
	x.bytes = append(x.bytes, make([]byte, size-len(x.bytes))...)
}

// source is a text of which bytes are taken, one behind the other.
type source struct{ rest string }

// front takes as many bytes as there are, if there are fewer than n.
func (x *source) front(n int) string {
	n = min(n, len(x.rest))
	s := x.rest[:n]
	x.rest = x.rest[n:]
	return s
}

func (x *source) number(width int) int {
	n := 0
	for _, b := range []byte(x.front(width)) {
		n = n<<8 | int(b)
	}
	return n
}

// text is a copy, so that what is told doesn't hold on to the whole text.
func (x *source) text() string { return strings.Clone(x.front(x.number(1))) }
