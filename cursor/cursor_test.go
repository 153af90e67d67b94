package cursor_test

import (
	"maps"
	"math"
	"slices"
	"strconv"
	"strings"
	"testing"

	"quorum/api"
	"quorum/cursor"
	"quorum/tree"
)

func to(low, high string) api.Range { return api.Range{Low: low, High: high} }

func top(low string) api.Range { return api.Range{Low: low, Top: true} }

// leaf has these keys, with the rows 1 and on.
func leaf(keys ...string) api.Node {
	n := api.Node{Keys: keys, Leaf: true}
	for i := range keys {
		n.Rows = append(n.Rows, i+1)
	}
	return n
}

func inner(keys []string, kids ...int) api.Node { return api.Node{Keys: keys, Kids: kids} }

func of(root int, nodes ...api.Node) api.Tree { return api.Tree{Nodes: nodes, Root: root} }

func with(t api.Tree, free ...int) api.Tree {
	t.Free = free
	return t
}

// some has leaves that lie in another order than their keys, and free nodes.
func some() api.Tree {
	return with(of(3, leaf("a", "b"), api.Node{}, leaf("f", "g", "h", "i"), inner([]string{"c", "f"}, 0, 5, 2), api.Node{}, leaf("d", "e")), 1, 4)
}

// high has three levels; of the keys of its inner nodes g and m are no keys of
// the tree.
func high() api.Tree {
	return of(0, inner([]string{"j"}, 1, 2), inner([]string{"d", "g"}, 3, 4, 5), inner([]string{"m", "p"}, 6, 7, 8),
		leaf("b", "c"), leaf("d", "e"), leaf("h", "i"), leaf("j", "k"), leaf("n", "o"), leaf("p", "q"))
}

// far has in its inner node a text that is no key, and too long to be asked for.
func far() api.Tree {
	return of(2, leaf("a", "b"), leaf("d", "e"), inner([]string{strings.Repeat("c", 1000)}, 0, 1))
}

// near has keys that lie as near to each other as they can, the shortest and the
// longest ones.
func near(t *testing.T) api.Tree {
	return grown(t, "\x00", "\x00\x00", long("\x00"), "A", "a", "a\x00", "a\x00\x00", "aa", long("a"), "b", "\x7f", "\x80", "\xfe", "\xfe\xff", "\xff", long("\xff"))
}

// long is a key of MaxKey bytes; longer may be asked for, too long may not.
func long(s string) string { return strings.Repeat(s, api.MaxKey) }

func longer(s string) string { return strings.Repeat(s, api.MaxKey+1) }

func tooLong(s string) string { return strings.Repeat(s, api.MaxKey+2) }

// num is a key: they rise as n does.
func num(n int) string { return "k" + strconv.Itoa(1<<20+n) }

// grown has these keys, with rows from 0 to MaxNum.
func grown(t *testing.T, keys ...string) api.Tree {
	t.Helper()
	x := tree.New()
	for i, k := range keys {
		y, e := tree.Add(x, k, i*(api.MaxNum/max(len(keys)-1, 1)))
		if e != api.OK {
			t.Fatalf("%q: %v", k, e)
		}
		x = y
	}
	return x
}

// mixed are n keys, in no order, with room for others between them.
func mixed(n int) []string {
	var l []string
	for i := range n {
		l = append(l, num(10*(i*7919%n)))
	}
	return l
}

// thinned is a tree of which most keys are gone, so that nodes are free.
func thinned(t *testing.T) api.Tree {
	t.Helper()
	x := grown(t, mixed(300)...)
	for i := range 300 {
		if i%9 == 0 {
			continue
		}
		y, e := tree.Cut(x, num(10*i))
		if e != api.OK {
			t.Fatalf("%d: %v", i, e)
		}
		x = y
	}
	return x
}

// full has no room for a key more at its end.
func full(t *testing.T) api.Tree {
	t.Helper()
	x := tree.New()
	for i := 0; ; i++ {
		y, e := tree.Add(x, num(10*i), i)
		if e == api.ErrFull {
			return x
		}
		if e != api.OK {
			t.Fatalf("%d: %v", i, e)
		}
		x = y
	}
}

// small are trees of few keys; large, of many.
func small(t *testing.T) []api.Tree {
	l := []api.Tree{tree.New(), with(of(1, api.Node{}, leaf()), 0), some(), high(), far(), near(t)}
	for n := 1; n <= api.Order; n++ {
		l = append(l, of(0, leaf([]string{"f", "g", "h", "i"}[:n]...)), grown(t, mixed(n)...))
	}
	return append(l, grown(t, mixed(5)...), grown(t, mixed(13)...))
}

func large(t *testing.T) []api.Tree {
	return []api.Tree{grown(t, mixed(61)...), grown(t, mixed(250)...), thinned(t), full(t)}
}

func trees(t *testing.T) []api.Tree { return append(small(t), large(t)...) }

// row is a key and its number, or none.
type row struct {
	key string
	n   int
	e   api.Errno
}

func none() row { return row{e: api.ErrNone} }

func form() row { return row{e: api.ErrForm} }

func next(x api.Tree, k string) (r row) { r.key, r.n, r.e = cursor.Next(x, k); return r }

func last(x api.Tree, k string) (r row) { r.key, r.n, r.e = cursor.Last(x, k); return r }

func first(x api.Tree) (r row) { r.key, r.n, r.e = cursor.First(x); return r }

func end(x api.Tree) (r row) { r.key, r.n, r.e = cursor.End(x); return r }

// records are what the leaves of a tree have, rising.
func records(x api.Tree) []row {
	m := map[string]int{}
	for _, n := range x.Nodes {
		for i, r := range n.Rows {
			m[n.Keys[i]] = r
		}
	}
	var l []row
	for _, k := range slices.Sorted(maps.Keys(m)) {
		l = append(l, row{key: k, n: m[k]})
	}
	return l
}

// texts are keys of l, and what is near to them, and what lies below and above
// all of them.
func texts(l []row) []string {
	s := []string{"", "\x00", "\xff", long("\xff"), longer("\xff"), long("k"), longer("k"), longer("\x00")}
	for _, r := range l {
		head, tail := r.key[:len(r.key)-1], r.key[len(r.key)-1]
		s = append(s, r.key, r.key+"\x00", head, head+string([]byte{tail + 1}), head+string([]byte{tail - 1}))
	}
	slices.Sort(s)
	return slices.Compact(s)
}

// The words of the chapter, gone through row by row.

func nextOf(l []row, k string) row {
	for _, r := range l {
		if r.key >= k {
			return r
		}
	}
	return none()
}

func lastOf(l []row, k string) row {
	told := none()
	for _, r := range l {
		if r.key < k {
			told = r
		}
	}
	return told
}

func rowsOf(l []row, r api.Range, n int, back bool) []api.Row {
	var in []api.Row
	for _, x := range l {
		if x.key >= r.Low && (r.Top || x.key < r.High) {
			in = append(in, api.Row{Key: x.key, Value: strconv.Itoa(x.n)})
		}
	}
	if back {
		slices.Reverse(in)
	}
	return in[:min(n, len(in))]
}

// P7.1

func TestNextAndLast(t *testing.T) {
	for i, c := range []struct {
		x          api.Tree
		k          string
		next, last row
	}{
		{some(), "", row{key: "a", n: 1}, none()}, {some(), "A", row{key: "a", n: 1}, none()}, {some(), "a", row{key: "a", n: 1}, none()},
		{some(), "a\x00", row{key: "b", n: 2}, row{key: "a", n: 1}}, {some(), "b", row{key: "b", n: 2}, row{key: "a", n: 1}},
		{some(), "c", row{key: "d", n: 1}, row{key: "b", n: 2}}, {some(), "d", row{key: "d", n: 1}, row{key: "b", n: 2}}, {some(), "ee", row{key: "f", n: 1}, row{key: "e", n: 2}},
		{some(), "f", row{key: "f", n: 1}, row{key: "e", n: 2}}, {some(), "i", row{key: "i", n: 4}, row{key: "h", n: 3}},
		{some(), "i\x00", none(), row{key: "i", n: 4}}, {some(), longer("\xff"), none(), row{key: "i", n: 4}}, {some(), longer("h"), row{key: "i", n: 4}, row{key: "h", n: 3}},
		{high(), "g", row{key: "h", n: 1}, row{key: "e", n: 2}}, {high(), "m", row{key: "n", n: 1}, row{key: "k", n: 2}}, {high(), "j", row{key: "j", n: 1}, row{key: "i", n: 2}},
		{high(), "q", row{key: "q", n: 2}, row{key: "p", n: 1}}, {high(), "r", none(), row{key: "q", n: 2}}, {high(), "b", row{key: "b", n: 1}, none()},
		{far(), longer("c"), row{key: "d", n: 1}, row{key: "b", n: 2}}, {far(), "c", row{key: "d", n: 1}, row{key: "b", n: 2}},
		{grown(t, long("m")), long("m"), row{key: long("m")}, none()}, {grown(t, long("m")), longer("m"), none(), row{key: long("m")}}, {grown(t, long("m")), longer("l"), row{key: long("m")}, none()},
		{grown(t, "\x00"), "", row{key: "\x00"}, none()}, {grown(t, "\x00"), "\x00", row{key: "\x00"}, none()}, {grown(t, "\x00"), "\x00\x00", none(), row{key: "\x00"}},
		{grown(t, "\x7f", "\x80"), "\x80", row{key: "\x80", n: api.MaxNum}, row{key: "\x7f"}},
	} {
		if n, l := next(c.x, c.k), last(c.x, c.k); n != c.next || l != c.last {
			t.Errorf("%d, %q: %v, %v", i, c.k, n, l)
		}
	}
}

func TestNextAndLastEverywhere(t *testing.T) {
	for i, x := range trees(t) {
		l := records(x)
		for _, k := range texts(l) {
			if len(k) > api.MaxKey+1 {
				continue
			}
			if n, want := next(x, k), nextOf(l, k); n != want {
				t.Fatalf("%d, next of %q: %v, not %v", i, k, n, want)
			}
			if n, want := last(x, k), lastOf(l, k); n != want {
				t.Fatalf("%d, last of %q: %v, not %v", i, k, n, want)
			}
		}
	}
}

func TestFirstAndEnd(t *testing.T) {
	for i, c := range []struct {
		x          api.Tree
		first, end row
	}{
		{some(), row{key: "a", n: 1}, row{key: "i", n: 4}}, {high(), row{key: "b", n: 1}, row{key: "q", n: 2}}, {of(0, leaf("x")), row{key: "x", n: 1}, row{key: "x", n: 1}},
		{grown(t, long("\xff"), "\x00"), row{key: "\x00", n: api.MaxNum}, row{key: long("\xff")}}, {grown(t, "b", "a"), row{key: "a", n: api.MaxNum}, row{key: "b"}},
	} {
		if f, n := first(c.x), end(c.x); f != c.first || n != c.end {
			t.Errorf("%d: %v, %v", i, f, n)
		}
	}
	for i, x := range trees(t) {
		l := records(x)
		if f, n := first(x), end(x); f != nextOf(l, "") || n != lastOf(l, longer("\xff")) {
			t.Errorf("%d: %v, %v", i, f, n)
		}
	}
}

// The example of the chapter.
func TestNoneOfAnEmptyTree(t *testing.T) {
	emptied, e := tree.Cut(grown(t, "a"), "a")
	if e != api.OK {
		t.Fatalf("%v", e)
	}
	for i, x := range []api.Tree{tree.New(), emptied, with(of(1, api.Node{}, leaf()), 0)} {
		for _, k := range []string{"", "a", long("\xff"), longer("\xff")} {
			for what, r := range map[string]row{"next": next(x, k), "last": last(x, k), "first": first(x), "end": end(x)} {
				if r != none() {
					t.Errorf("%d, %s of %q: %v", i, what, k, r)
				}
			}
		}
		for _, r := range []api.Range{top(""), top("a"), to("", ""), to("a", "b"), to("", longer("\xff"))} {
			for _, n := range []int{0, 1, api.MaxNum} {
				wantRows(t, x, r, n, false, nil)
				wantRows(t, x, r, n, true, nil)
			}
		}
	}
}

// Each length of a text that there may be, and more.
func TestLengthsOfTexts(t *testing.T) {
	for _, x := range []api.Tree{some(), tree.New(), full(t)} {
		for n := range api.MaxKey + 20 {
			for _, s := range []string{"\x00", "g", "\xff"} {
				k := strings.Repeat(s, n)
				wantNext, wantLast := nextOf(records(x), k), lastOf(records(x), k)
				if n > api.MaxKey+1 {
					wantNext, wantLast = form(), form()
				}
				if r := next(x, k); r != wantNext {
					t.Errorf("next of %q: %v, not %v", k, r, wantNext)
				}
				if r := last(x, k); r != wantLast {
					t.Errorf("last of %q: %v, not %v", k, r, wantLast)
				}
			}
		}
	}
}

// P7.2

func wantRows(t *testing.T, x api.Tree, r api.Range, n int, back bool, want []api.Row) {
	t.Helper()
	if l, e := cursor.Rows(x, r, n, back); !slices.Equal(l, want) || e != api.OK {
		t.Fatalf("%#v, %d, %v: %v, %v, not %v", r, n, back, l, e, want)
	}
}

func TestRows(t *testing.T) {
	for i, c := range []struct {
		x    api.Tree
		r    api.Range
		n    int
		back bool
		want string
	}{
		{some(), top(""), api.MaxNum, false, "a1 b2 d1 e2 f1 g2 h3 i4 "}, {some(), top(""), api.MaxNum, true, "i4 h3 g2 f1 e2 d1 b2 a1 "},
		{some(), top(""), 0, false, ""}, {some(), top(""), 0, true, ""}, {some(), top(""), 3, false, "a1 b2 d1 "}, {some(), top(""), 3, true, "i4 h3 g2 "},
		{some(), to("b", "h"), 4, false, "b2 d1 e2 f1 "}, {some(), to("b", "h"), 5, false, "b2 d1 e2 f1 g2 "}, {some(), to("b", "h"), 6, false, "b2 d1 e2 f1 g2 "},
		{some(), to("b", "h"), 4, true, "g2 f1 e2 d1 "}, {some(), to("b", "h"), 5, true, "g2 f1 e2 d1 b2 "}, {some(), to("b", "h"), 6, true, "g2 f1 e2 d1 b2 "},
		{some(), to("c", "g\x00"), 9, false, "d1 e2 f1 g2 "}, {some(), to("c", "g\x00"), 9, true, "g2 f1 e2 d1 "}, {some(), to("bb", "dd"), 9, false, "d1 "},
		{some(), to("e", "e\x00"), 9, false, "e2 "}, {some(), to("e", "e\x00"), 1, true, "e2 "}, {some(), to("e", "e"), 9, false, ""}, {some(), to("e", "e"), 9, true, ""},
		{some(), to("c", "d"), 9, false, ""}, {some(), to("c", "d"), 9, true, ""}, {some(), to("", "a"), 9, false, ""}, {some(), to("", "a\x00"), 9, true, "a1 "}, {some(), api.Range{}, 9, false, ""},
		{some(), top("i"), 9, false, "i4 "}, {some(), top("i\x00"), 9, false, ""}, {some(), top(longer("\xff")), 9, true, ""}, {some(), to("i", longer("\xff")), 9, true, "i4 "}, {some(), to("", longer("\xff")), 9, false, "a1 b2 d1 e2 f1 g2 h3 i4 "},
		{high(), to("c", "n"), 9, false, "c2 d1 e2 h1 i2 j1 k2 "}, {high(), to("c", "n"), 2, true, "k2 j1 "}, {high(), to("g", "m"), 9, false, "h1 i2 j1 k2 "}, {high(), to("f", "h"), 9, true, ""},
		{far(), to("b", longer("c")), 9, false, "b2 "}, {grown(t, long("m")), to(long("m"), long("m")+"\x00"), 9, false, long("m") + "0 "}, {grown(t, long("m")), top(longer("m")), 9, false, ""},
		{grown(t, "a", "b"), top(""), 2, false, "a0 b" + strconv.Itoa(api.MaxNum) + " "},
	} {
		l, e := cursor.Rows(c.x, c.r, c.n, c.back)
		told := ""
		for _, r := range l {
			told += r.Key + r.Value + " "
		}
		if told != c.want || e != api.OK {
			t.Errorf("%d: %q, %v, not %q", i, told, e, c.want)
		}
	}
}

// ranges are all that lie between these bounds.
func ranges(bounds []string) []api.Range {
	l := []api.Range{top(""), {}}
	for i, low := range bounds {
		l = append(l, top(low))
		for _, high := range bounds[i:] {
			l = append(l, to(low, high))
		}
	}
	return l
}

// wantAllRows asks for fewer rows than there are, as many, and more.
func wantAllRows(t *testing.T, x api.Tree, r api.Range) {
	t.Helper()
	l := records(x)
	many := len(rowsOf(l, r, api.MaxNum, false))
	for _, n := range []int{0, 1, many / 2, many - 1, many, many + 1, api.MaxNum - 1, api.MaxNum} {
		for _, back := range []bool{false, true} {
			if n >= 0 {
				wantRows(t, x, r, n, back, rowsOf(l, r, n, back))
			}
		}
	}
}

func TestRowsEverywhere(t *testing.T) {
	for _, x := range small(t) {
		bounds := slices.DeleteFunc(texts(records(x)), func(s string) bool { return len(s) > api.MaxKey+1 })
		if len(bounds) > 30 {
			bounds = bounds[:30]
		}
		for _, r := range ranges(bounds) {
			wantAllRows(t, x, r)
		}
	}
	for _, x := range large(t) {
		l := records(x)
		for i := range l {
			wantAllRows(t, x, to(l[i/2].key, l[i].key))
		}
		wantAllRows(t, x, top(""))
	}
}

// P7.3

func TestNextLeadsThroughAll(t *testing.T) {
	for i, x := range trees(t) {
		var led []row
		for r := next(x, ""); r != none(); r = next(x, r.key+"\x00") {
			if led = append(led, r); r.e != api.OK || len(led) > 1000 {
				t.Fatalf("%d: %v", i, r)
			}
		}
		wantAll(t, x, led)
	}
}

func TestLastLeadsThroughAll(t *testing.T) {
	for i, x := range trees(t) {
		var led []row
		for r := last(x, longer("\xff")); r != none(); r = last(x, r.key) {
			if led = append(led, r); r.e != api.OK || len(led) > 1000 {
				t.Fatalf("%d: %v", i, r)
			}
		}
		slices.Reverse(led)
		wantAll(t, x, led)
	}
}

// wantAll holds the rows to be those of the tree, from its first to its end.
func wantAll(t *testing.T, x api.Tree, led []row) {
	t.Helper()
	all, e := tree.All(x)
	var told []api.Row
	for _, r := range led {
		told = append(told, api.Row{Key: r.key, Value: strconv.Itoa(r.n)})
	}
	if !slices.Equal(told, all) || e != api.OK {
		t.Fatalf("%v, %v, not %v", told, e, all)
	}
	wantRows(t, x, top(""), api.MaxNum, false, all)
	if len(led) > 0 && (first(x) != led[0] || end(x) != led[len(led)-1]) {
		t.Fatalf("%v, %v: %v", first(x), end(x), led)
	}
}

// What may not be

func badTrees() []api.Tree {
	twice, thin, early, rootless := some(), some(), some(), some()
	twice.Nodes[3].Kids = []int{0, 5, 5}
	thin.Nodes[0] = leaf("a")
	early.Nodes[2].Keys = []string{"e", "g", "h", "i"}
	rootless.Root = 6
	return []api.Tree{
		{}, {Nodes: []api.Node{}}, of(0, api.Node{}), of(-1, leaf("a")), of(math.MaxInt, leaf("a")), of(0, leaf("b", "a")), of(0, leaf("a", "a")), of(0, leaf("")), of(0, leaf("a", longer("k"))), of(0, leaf("a", "b", "c", "d", "e")),
		of(0, api.Node{Leaf: true, Keys: []string{"a"}, Rows: []int{-1}}), of(0, api.Node{Leaf: true, Keys: []string{"a"}, Rows: []int{api.MaxNum + 1}}), of(0, api.Node{Leaf: true, Keys: []string{"a"}}), of(0, inner([]string{"a"}, 0, 0)), of(0, inner([]string{"b"}, 1, 2), leaf("a"), leaf("b", "c")),
		with(some(), 1), with(some(), 4, 1), with(tree.New(), 0), of(0, append([]api.Node{leaf("a")}, make([]api.Node, api.MaxNodes)...)...), twice, thin, early, rootless,
	}
}

func badRanges() []api.Range {
	return []api.Range{to("b", "a"), to("a\x00", "a"), to("a", ""), {Low: "a", High: "b", Top: true}, {High: "\x00", Top: true}, top(tooLong("k")), to("", tooLong("k")), to(tooLong("k"), "l"), to(tooLong("k"), tooLong("k")), top(strings.Repeat("k", 1<<20))}
}

func badNumbers() []int { return []int{-1, api.MaxNum + 1, math.MinInt, math.MaxInt} }

func wantNoRows(t *testing.T, x api.Tree, r api.Range, n int) {
	t.Helper()
	for _, back := range []bool{false, true} {
		if l, e := cursor.Rows(x, r, n, back); len(l) > 0 || e != api.ErrForm {
			t.Errorf("%#v, %#v, %d, %v: %v, %v", x, r, n, back, l, e)
		}
	}
}

func TestTreesThatMayNotBe(t *testing.T) {
	for i, x := range badTrees() {
		for _, k := range []string{"", "a", "z", long("\xff"), longer("\xff"), tooLong("a")} {
			for what, r := range map[string]row{"next": next(x, k), "last": last(x, k), "first": first(x), "end": end(x)} {
				if r != form() {
					t.Errorf("%d, %s of %q: %v", i, what, k, r)
				}
			}
		}
		for _, r := range append(badRanges(), top(""), to("", ""), to("a", "b"), to("x", "x")) {
			for _, n := range append(badNumbers(), 0, 1, api.MaxNum) {
				wantNoRows(t, x, r, n)
			}
		}
	}
}

// R4: ErrForm stands ahead of ErrNone, and of rows of which none are asked for.
func TestAskedForWhatMayNotBe(t *testing.T) {
	for i, x := range trees(t) {
		for _, k := range []string{tooLong("\x00"), tooLong("k"), tooLong("\xff"), strings.Repeat("k", 1<<20)} {
			if n, l := next(x, k), last(x, k); n != form() || l != form() {
				t.Errorf("%d, %d bytes: %v, %v", i, len(k), n, l)
			}
		}
		for _, r := range badRanges() {
			for _, n := range append(badNumbers(), 0, 1, api.MaxNum) {
				wantNoRows(t, x, r, n)
			}
		}
		for _, n := range badNumbers() {
			for _, r := range []api.Range{top(""), to("", ""), to("a", "b"), to("x", "x"), top(longer("\xff"))} {
				wantNoRows(t, x, r, n)
			}
		}
	}
}

// R2

const mark = 77777

// roomy is x with spare room behind the end of each list, with marks in it.
func roomy(x api.Tree) api.Tree {
	y := api.Tree{Root: x.Root, Free: append(slices.Clone(x.Free), mark)[:len(x.Free)]}
	for _, n := range x.Nodes {
		y.Nodes = append(y.Nodes, api.Node{
			Keys: append(slices.Clone(n.Keys), "mark")[:len(n.Keys)],
			Rows: append(slices.Clone(n.Rows), mark)[:len(n.Rows)],
			Kids: append(slices.Clone(n.Kids), mark)[:len(n.Kids)],
			Leaf: n.Leaf,
		})
	}
	y.Nodes = append(y.Nodes, leaf("mark"))[:len(y.Nodes)]
	return y
}

// spread shows a tree of which the spare room is no longer spare.
func spread(x api.Tree) api.Tree {
	y := api.Tree{Root: x.Root, Free: x.Free[:len(x.Free)+1]}
	for _, n := range x.Nodes {
		n.Keys, n.Rows, n.Kids = n.Keys[:len(n.Keys)+1], n.Rows[:len(n.Rows)+1], n.Kids[:len(n.Kids)+1]
		y.Nodes = append(y.Nodes, n)
	}
	y.Nodes = append(y.Nodes, x.Nodes[:len(x.Nodes)+1][len(x.Nodes)])
	return y
}

func same(a, b api.Tree) bool {
	return a.Root == b.Root && slices.Equal(a.Free, b.Free) && slices.EqualFunc(a.Nodes, b.Nodes, func(a, b api.Node) bool {
		return a.Leaf == b.Leaf && slices.Equal(a.Keys, b.Keys) && slices.Equal(a.Rows, b.Rows) && slices.Equal(a.Kids, b.Kids)
	})
}

func askAll(x api.Tree, r api.Range) {
	for _, n := range []int{-1, 0, 1, 3, api.MaxNum, api.MaxNum + 1} {
		cursor.Rows(x, r, n, false)
		cursor.Rows(x, r, n, true)
	}
	for _, k := range []string{r.Low, r.High} {
		next(x, k)
		last(x, k)
	}
	first(x)
	end(x)
}

func TestHandedInStaysAsItIs(t *testing.T) {
	for i, x := range append(trees(t), badTrees()...) {
		given := roomy(x)
		for _, r := range append(badRanges(), top(""), to("b", "h"), to("", longer("\xff"))) {
			askAll(given, r)
		}
		if !same(spread(given), spread(roomy(x))) {
			t.Errorf("%d: %#v, not %#v", i, given, x)
		}
	}
}

// Whoever writes into what was told, and behind its end, changes no answer and
// no tree.
func TestAnswersAreCopies(t *testing.T) {
	for i, x := range trees(t) {
		given := roomy(x)
		for _, back := range []bool{false, true} {
			for _, n := range []int{0, 1, 3, api.MaxNum} {
				one, _ := cursor.Rows(given, top(""), n, back)
				two, _ := cursor.Rows(given, top(""), n, back)
				for at := range one[:cap(one)] {
					one[:cap(one)][at] = api.Row{Key: "written", Value: "written"}
				}
				if want := rowsOf(records(x), top(""), n, back); !slices.Equal(two, want) {
					t.Errorf("%d: %v, not %v", i, two, want)
				}
				wantRows(t, given, top(""), n, back, two)
			}
		}
		if !same(spread(given), spread(roomy(x))) {
			t.Errorf("%d: %#v, not %#v", i, given, x)
		}
	}
}

// A list that is nil and one that is empty.
func TestNilAndEmptyAreOne(t *testing.T) {
	for i, x := range []api.Tree{
		{Nodes: []api.Node{{Leaf: true}}}, {Nodes: []api.Node{{Leaf: true, Keys: []string{}, Rows: []int{}, Kids: []int{}}}, Free: []int{}},
		{Nodes: []api.Node{{Leaf: true}, {Keys: []string{}, Rows: []int{}, Kids: []int{}}}, Free: []int{1}},
	} {
		if f, n := first(x), end(x); f != none() || n != none() {
			t.Errorf("%d: %v, %v", i, f, n)
		}
		wantRows(t, x, top(""), 9, false, nil)
	}
}
