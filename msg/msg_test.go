package msg_test

import (
	"bytes"
	"math"
	"math/rand/v2"
	"reflect"
	"slices"
	"strconv"
	"strings"
	"testing"

	"icehouse/api"
	"icehouse/msg"
)

const edge = 1 << 40

// The references below are written from the chapters: one sentence a line.

func between(n, low, high int64) bool { return n >= low && n <= high }

func refMayItem(x api.Item) bool {
	key := between(int64(len(x.Key)), 1, 40)
	val := between(int64(len(x.Val)), 0, 200)
	end := between(x.End, 0, edge)
	gone := !x.Gone || x.Val == "" && x.End == 0
	return key && val && end && gone
}

func refMayMarks(ms []api.Mark) bool {
	ok := len(ms) <= 4
	for i, m := range ms {
		ok = ok && between(m.Seq, 1, edge) && between(int64(len(m.Key)), 1, 40)
		ok = ok && (i == 0 || ms[i-1].Seq < m.Seq)
	}
	return ok
}

func refMayNodes(nodes []int) bool {
	ok := len(nodes) <= 5
	for i, node := range nodes {
		ok = ok && between(int64(node), 1, 5)
		ok = ok && (i == 0 || nodes[i-1] < node)
	}
	return ok
}

func refMay(m api.Msg) bool {
	kind := between(int64(m.Kind), 1, 14)
	ends := between(int64(m.From), 0, 5) && between(int64(m.To), 0, 5) && m.From != m.To
	numbers := true
	for _, n := range []int64{m.Epoch, m.Tick, m.Seq, m.Id, m.Base} {
		numbers = numbers && between(n, 0, edge)
	}
	count := between(int64(m.N), 0, 1<<30)
	op := between(int64(m.Op), 0, 2)
	key := len(m.Key) <= 40
	err := between(int64(m.Err), 0, 10)
	one := m.Item == api.Item{} || refMayItem(m.Item)
	items := len(m.Items) <= 4
	for _, x := range m.Items {
		items = items && refMayItem(x)
	}
	lists := refMayMarks(m.Marks) && refMayNodes(m.Members) && refMayNodes(m.Old)
	return kind && ends && numbers && count && op && key && err && one && items && lists
}

// refEq is that of reflect, of messages whose empty lists are none.
func refEq(a, b api.Msg) bool {
	return reflect.DeepEqual(bare(a), bare(b))
}

func bare(m api.Msg) api.Msg {
	m.Items, m.Marks, m.Members, m.Old = none(m.Items), none(m.Marks), none(m.Members), none(m.Old)
	return m
}

func none[T any](l []T) []T {
	if len(l) == 0 {
		return nil
	}
	return l
}

func text(n int) string { return strings.Repeat("k", n) }

// full is a message each of whose parts is as great as it may be.
func full() api.Msg {
	x := api.Item{Key: text(40), Val: text(200), End: edge}
	return api.Msg{
		Kind: 14, From: 5, To: 0, Epoch: edge, Tick: edge, Seq: edge, N: 1 << 30, Id: edge, Op: 2, Key: text(40), Err: 10, Last: true,
		Item: x, Items: []api.Item{x, x, x, x},
		Marks:   []api.Mark{{Seq: 1, Key: text(40)}, {Seq: 2, Key: "b"}, {Seq: edge - 1, Key: "c"}, {Seq: edge, Key: text(40)}},
		Members: []int{1, 2, 3, 4, 5}, Base: edge, Old: []int{1, 2, 3, 4, 5},
	}
}

// plain is one that says next to nothing.
func plain() api.Msg { return api.Msg{Kind: 1, From: 1} }

// ordinary is one with something of everything, no two of it the same.
func ordinary() api.Msg {
	return api.Msg{
		Kind: 5, From: 2, To: 3, Epoch: 7, Tick: 90, Seq: 1000, N: 11, Id: 12, Op: 1, Key: "a key", Err: 6,
		Item:    api.Item{Key: "one", Val: "a value", End: 70},
		Items:   []api.Item{{Key: "two", Val: "another"}, {Key: "three", Gone: true}},
		Marks:   []api.Mark{{Seq: 8, Key: "x"}, {Seq: 9, Key: "\x00\xff"}},
		Members: []int{1, 3, 4}, Base: 6, Old: []int{1, 4},
	}
}

// turn is a message's field that gets another value.
type turn struct {
	name string
	set  func(m *api.Msg)
}

// odd are numbers about all the limits, and those that a narrower int would take for others.
func odd() []int64 {
	return []int64{
		0, 1, 2, 3, 4, 5, 6, 7, 9, 10, 11, 13, 14, 15, 16, 63, 64, 127, 128, 255, 256, 257, 1<<30 - 1, 1 << 30, 1<<30 + 1, 1 << 32, 1<<32 + 1,
		edge - 1, edge, edge + 1, 2 * edge, -1, -2, -64, -edge, math.MaxInt64, math.MinInt64, math.MinInt64 + 1,
	}
}

func turnNumbers() []turn {
	var out []turn
	for _, n := range odd() {
		out = append(out,
			turn{"Kind", func(m *api.Msg) { m.Kind = int(n) }}, turn{"From", func(m *api.Msg) { m.From = int(n) }},
			turn{"To", func(m *api.Msg) { m.To = int(n) }}, turn{"Epoch", func(m *api.Msg) { m.Epoch = n }},
			turn{"Tick", func(m *api.Msg) { m.Tick = n }}, turn{"Seq", func(m *api.Msg) { m.Seq = n }},
			turn{"N", func(m *api.Msg) { m.N = int(n) }}, turn{"Id", func(m *api.Msg) { m.Id = n }},
			turn{"Op", func(m *api.Msg) { m.Op = int(n) }}, turn{"Err", func(m *api.Msg) { m.Err = api.Errno(n) }},
			turn{"Base", func(m *api.Msg) { m.Base = n }})
	}
	for i := range out {
		out[i].name += " " + strconv.FormatInt(odd()[i/11], 10)
	}
	return append(out, turn{"Last", func(m *api.Msg) { m.Last = true }}, turn{"not Last", func(m *api.Msg) { m.Last = false }})
}

// entries are such that may be, and such that may not.
func entries() []api.Item {
	return []api.Item{
		{}, {Key: "k"}, {Key: "k", Val: "v"}, {Key: "k", End: 1}, {Key: "k", Gone: true}, {Key: "q", Val: "v"}, {Key: "\x00"}, {Key: "\xff\xfe", Val: "\x00"},
		{Key: text(40), Val: text(200), End: edge}, {Key: text(40), Gone: true}, {Key: text(41)}, {Key: text(41), Gone: true}, {Key: text(70000)},
		{Key: "k", Val: text(201)}, {Key: "k", Val: text(70000)}, {Key: "k", End: edge + 1}, {Key: "k", End: -1}, {Key: "k", End: math.MinInt64},
		{Key: "k", Val: "v", Gone: true}, {Key: "k", End: 1, Gone: true}, {Val: "v"}, {End: 1}, {Gone: true},
	}
}

func turnEntries() []turn {
	var out []turn
	for i, x := range entries() {
		name := " " + strconv.Itoa(i)
		a := api.Item{Key: "a", Val: "1"}
		out = append(out,
			turn{"Item" + name, func(m *api.Msg) { m.Item = x }},
			turn{"Items, alone" + name, func(m *api.Msg) { m.Items = []api.Item{x} }},
			turn{"Items, first" + name, func(m *api.Msg) { m.Items = []api.Item{x, a, a} }},
			turn{"Items, last of 4" + name, func(m *api.Msg) { m.Items = []api.Item{a, a, a, x} }},
			turn{"Items, last of 5" + name, func(m *api.Msg) { m.Items = []api.Item{a, a, a, a, x} }})
	}
	return append(out,
		turn{"Items nil", func(m *api.Msg) { m.Items = nil }}, turn{"Items empty", func(m *api.Msg) { m.Items = []api.Item{} }},
		turn{"Items, many", func(m *api.Msg) { m.Items = slices.Repeat([]api.Item{{Key: "a"}}, 1000) }})
}

// row is a mark, in short.
type row struct {
	seq int64
	key string
}

func turnMarks() []turn {
	var out []turn
	for i, rows := range [][]row{
		nil, {}, {{1, "a"}}, {{1, "b"}}, {{2, "a"}}, {{edge, "a"}}, {{edge + 1, "a"}}, {{0, "a"}}, {{-1, "a"}}, {{math.MaxInt64, "a"}}, {{math.MinInt64, "a"}}, {{}},
		{{1, ""}}, {{1, text(40)}}, {{1, text(41)}}, {{1, text(70000)}}, {{1, "\x00"}}, {{1, "\xff"}},
		{{1, "a"}, {2, "a"}}, {{1, "a"}, {edge, "b"}}, {{1, "a"}, {1, "b"}}, {{2, "a"}, {1, "b"}}, {{1, "a"}, {0, "b"}}, {{1, "a"}, {edge + 1, "b"}}, {{1, "a"}, {2, ""}}, {{1, "a"}, {2, text(41)}},
		{{1, "a"}, {2, "b"}, {3, "c"}}, {{1, "a"}, {2, "b"}, {3, "c"}, {4, "d"}}, {{1, "a"}, {2, "b"}, {3, "c"}, {3, "d"}}, {{1, "a"}, {2, "b"}, {3, "c"}, {2, "d"}}, {{1, "a"}, {5, "b"}, {3, "c"}, {4, "d"}},
		{{1, "a"}, {2, "b"}, {3, "c"}, {4, ""}}, {{1, "a"}, {2, "b"}, {3, "c"}, {4, "d"}, {5, "e"}}, make([]row, 4), make([]row, 1000),
	} {
		l := make([]api.Mark, len(rows))
		for i, r := range rows {
			l[i] = api.Mark{Seq: r.seq, Key: r.key}
		}
		out = append(out, turn{"Marks " + strconv.Itoa(i), func(m *api.Msg) { m.Marks = l }})
	}
	return out
}

func turnNodes() []turn {
	lists := [][]int{
		nil, {}, {0}, {6}, {-1}, {1, 1}, {2, 1}, {0, 1}, {5, 6}, {1, 2, 3, 4, 5, 6}, {1, 2, 3, 4, 5, 5}, {1, 2, 3, 5, 4}, {1, 2, 2, 3}, {5, 4, 3, 2, 1},
		{math.MaxInt}, {math.MinInt}, {1<<32 + 1}, {257}, {1, 1<<32 + 2}, make([]int, 1000),
	}
	for bits := 1; bits < 32; bits++ {
		var l []int
		for node := 1; node <= 5; node++ {
			if bits>>(node-1)&1 == 1 {
				l = append(l, node)
			}
		}
		lists = append(lists, l)
	}
	var out []turn
	for i, l := range lists {
		out = append(out,
			turn{"Members " + strconv.Itoa(i), func(m *api.Msg) { m.Members = l }},
			turn{"Old " + strconv.Itoa(i), func(m *api.Msg) { m.Old = l }})
	}
	return out
}

func turns() []turn {
	out := slices.Concat(turnNumbers(), turnEntries(), turnMarks(), turnNodes())
	for _, n := range []int{0, 1, 39, 40, 41, 255, 256, 70000} {
		out = append(out, turn{"Key of " + strconv.Itoa(n), func(m *api.Msg) { m.Key = text(n) }})
	}
	return append(out, turn{"Key, bytes", func(m *api.Msg) { m.Key = "\x00\xff\xfe" }})
}

// check holds all that is told of one message against the chapter; whether it may be is answered.
func check(t *testing.T, name string, m api.Msg) bool {
	t.Helper()
	want := refMay(m)
	if got := msg.May(m); got != want {
		t.Errorf("P19.1: %s: May: %v", name, got)
	}
	b := msg.Encode(m)
	if !want {
		if b != nil {
			t.Errorf("P19.1: %s: Encode of one that may not be: %d bytes", name, len(b))
		}
		return false
	}
	x, err := msg.Decode(b)
	if len(b) == 0 || err != api.OK || !refEq(x, m) {
		t.Errorf("P19.1: %s: Decode: %v, %v", name, err, x)
	}
	if !msg.Eq(x, m) || !msg.Eq(m, x) {
		t.Errorf("P19.1: %s: Eq behind Decode", name)
	}
	return true
}

// told holds that the bytes are no message's.
func told(t *testing.T, name string, b []byte) {
	t.Helper()
	if m, err := msg.Decode(b); err != api.ErrForm || !reflect.DeepEqual(m, api.Msg{}) {
		t.Fatalf("P19.1: Decode, %s: %v, %v", name, err, m)
	}
}

func bases() []api.Msg { return []api.Msg{plain(), ordinary(), full()} }

// P19.1: each field at, within and beyond its limits, in messages of all sizes.
func TestTurns(t *testing.T) {
	for k, base := range bases() {
		if !check(t, "base", base) {
			t.Fatalf("P19.1: base %d may not be", k)
		}
		for _, a := range turns() {
			m := base
			a.set(&m)
			check(t, a.name, m)
		}
	}
}

// P19.1: any two fields at once; no field makes up for another one.
func TestPairs(t *testing.T) {
	may, mayNot := 0, 0
	all := turns()
	for i, a := range all {
		for _, b := range all[i+1:] {
			m := ordinary()
			a.set(&m)
			b.set(&m)
			want := refMay(m)
			if msg.May(m) != want || (len(msg.Encode(m)) > 0) != want {
				t.Fatalf("P19.1: %s and %s: May: %v", a.name, b.name, !want)
			}
			if want {
				may++
			} else {
				mayNot++
			}
		}
	}
	if may < 1000 || mayNot < 1000 {
		t.Errorf("few pairs: %d, %d", may, mayNot)
	}
}

// P19.1: From and To, all pairs.
func TestEnds(t *testing.T) {
	for from := -2; from <= 8; from++ {
		for to := -2; to <= 8; to++ {
			for kind := -1; kind <= 16; kind++ {
				check(t, "ends "+strconv.Itoa(from)+" "+strconv.Itoa(to), api.Msg{Kind: kind, From: from, To: to})
			}
		}
	}
}

// P19.1: what a kind does not use may stand in it as well.
func TestKinds(t *testing.T) {
	for kind := 1; kind <= 14; kind++ {
		for _, m := range bases() {
			m.Kind = kind
			if !check(t, "kind "+strconv.Itoa(kind), m) {
				t.Errorf("P19.1: a message of the kind %d may not be", kind)
			}
		}
	}
}

// P19.1: Eq of all that were turned, which may be or not.
func TestEq(t *testing.T) {
	var all []api.Msg
	for _, base := range bases() {
		all = append(all, base)
		for _, a := range turns() {
			m := base
			a.set(&m)
			all = append(all, m)
		}
	}
	same := 0
	for i, a := range all {
		if !msg.Eq(a, a) {
			t.Fatalf("P19.1: Eq of the message %d and itself", i)
		}
		for j, b := range all {
			want := refEq(a, b)
			if msg.Eq(a, b) != want {
				t.Fatalf("P19.1: Eq of the messages %d and %d: %v", i, j, !want)
			}
			if want && i != j {
				same++
			}
		}
	}
	if same == 0 {
		t.Error("no two are the same")
	}
}

// P19.1: Eq: each part of each entry of a list, their order and their number.
func TestEqLists(t *testing.T) {
	for k, f := range []func(m *api.Msg){
		func(m *api.Msg) { m.Item.Key += "x" }, func(m *api.Msg) { m.Item.Val += "x" }, func(m *api.Msg) { m.Item.End++ }, func(m *api.Msg) { m.Item.Gone = true },
		func(m *api.Msg) { m.Items[1].Key += "x" }, func(m *api.Msg) { m.Items[1].Val += "x" }, func(m *api.Msg) { m.Items[1].End++ }, func(m *api.Msg) { m.Items[1].Gone = false },
		func(m *api.Msg) { m.Items = m.Items[:1] }, func(m *api.Msg) { m.Items = append(m.Items, api.Item{}) }, func(m *api.Msg) { slices.Reverse(m.Items) },
		func(m *api.Msg) { m.Marks[1].Seq++ }, func(m *api.Msg) { m.Marks[1].Key += "x" }, func(m *api.Msg) { m.Marks = m.Marks[:1] },
		func(m *api.Msg) { m.Marks = append(m.Marks, api.Mark{}) }, func(m *api.Msg) { slices.Reverse(m.Marks) },
		func(m *api.Msg) { m.Members[2]++ }, func(m *api.Msg) { m.Members = m.Members[:2] }, func(m *api.Msg) { m.Members = append(m.Members, 0) }, func(m *api.Msg) { slices.Reverse(m.Members) },
		func(m *api.Msg) { m.Old[1]++ }, func(m *api.Msg) { m.Old = m.Old[:1] }, func(m *api.Msg) { m.Old = append(m.Old, 0) }, func(m *api.Msg) { slices.Reverse(m.Old) },
		func(m *api.Msg) { m.Members, m.Old = m.Old, m.Members },
	} {
		m := ordinary()
		f(&m)
		if msg.Eq(m, ordinary()) || msg.Eq(ordinary(), m) {
			t.Errorf("P19.1: Eq, %d: the same", k)
		}
	}
	a := api.Msg{Items: []api.Item{}, Marks: []api.Mark{}, Members: []int{}, Old: []int{}}
	if !msg.Eq(a, api.Msg{}) || !msg.Eq(api.Msg{}, a) || !msg.Eq(api.Msg{}, api.Msg{}) {
		t.Error("P19.1: Eq: none and empty are not the same")
	}
}

// P19.1: one byte that was changed, into each other one.
func TestChanged(t *testing.T) {
	for k, m := range bases() {
		b := msg.Encode(m)
		for i := range b {
			for x := 1; x < 256; x++ {
				// Of the longest one single bits and a few more do.
				if len(b) > 500 && x&(x-1) != 0 && x%85 != 0 {
					continue
				}
				c := slices.Clone(b)
				c[i] ^= byte(x)
				told(t, "message "+strconv.Itoa(k)+", byte "+strconv.Itoa(i)+" changed", c)
			}
		}
	}
}

// P19.1: bytes cut off at either end or at both, and from within.
func TestCut(t *testing.T) {
	for k, m := range bases() {
		name := "message " + strconv.Itoa(k) + ", cut "
		b := msg.Encode(m)
		for i := range b {
			told(t, name+"behind "+strconv.Itoa(i), b[:i])
			told(t, name+"ahead of "+strconv.Itoa(i+1), b[i+1:])
		}
		if len(b) > 500 {
			continue
		}
		for i := range b {
			for j := i; j <= len(b); j++ {
				if j-i == len(b) {
					continue
				}
				told(t, name+"to within", b[i:j])
				if j > i {
					told(t, name+"from within", slices.Concat(b[:i], b[j:]))
				}
			}
		}
	}
}

// P19.1: bytes put behind, ahead and between.
func TestPut(t *testing.T) {
	for k, m := range bases() {
		name := "message " + strconv.Itoa(k) + ", put "
		b := msg.Encode(m)
		for c := range 256 {
			told(t, name+"behind", slices.Concat(b, []byte{byte(c)}))
			told(t, name+"ahead", slices.Concat([]byte{byte(c)}, b))
		}
		for n := 1; n <= 300; n++ {
			told(t, name+"behind", slices.Concat(b, make([]byte, n)))
			told(t, name+"ahead", slices.Concat(make([]byte, n), b))
		}
		for i := 1; i < len(b); i++ {
			told(t, name+"between", slices.Concat(b[:i], []byte{0}, b[i:]))
		}
		for _, x := range bases() {
			told(t, name+"two of them", slices.Concat(b, msg.Encode(x)))
		}
	}
}

// P19.1: a message whose texts are another one's bytes, cut at the places of the other one's ends.
func TestWithin(t *testing.T) {
	inner := msg.Encode(ordinary())
	m := ordinary()
	m.Item.Val = string(inner[:min(len(inner), 200)])
	b := msg.Encode(m)
	check(t, "one within another", m)
	if i := bytes.Index(b, []byte(m.Item.Val)); i >= 0 {
		told(t, "cut to the other one", b[i:])
	}
}

// P19.1: bytes that are nothing's: none, all of one and two, all the same, drawn ones, very many.
func TestNothing(t *testing.T) {
	told(t, "nil", nil)
	told(t, "empty", []byte{})
	for x := range 1 << 16 {
		told(t, "one byte", []byte{byte(x)})
		told(t, "two bytes", []byte{byte(x), byte(x >> 8)})
	}
	for _, c := range []byte{0, 1, 2, 127, 128, 255} {
		for n := range 400 {
			told(t, "all the same", bytes.Repeat([]byte{c}, n))
		}
		for _, n := range []int{1 << 16, 1<<16 + 6, 1 << 20} {
			told(t, "very many", bytes.Repeat([]byte{c}, n))
		}
	}
	r := rand.New(rand.NewPCG(19, 1))
	for range 100000 {
		b := make([]byte, r.IntN(60))
		for i := range b {
			b[i] = byte(r.IntN(256) >> r.IntN(8))
		}
		told(t, "drawn", b)
	}
}

func drawText(r *rand.Rand, most int) string {
	b := make([]byte, r.IntN(most+1))
	for i := range b {
		b[i] = byte(r.IntN(256))
	}
	return string(b)
}

func drawItem(r *rand.Rand) api.Item {
	x := api.Item{Key: "k" + drawText(r, 39)}
	if r.IntN(3) == 0 {
		x.Gone = true
		return x
	}
	x.Val, x.End = drawText(r, 200), r.Int64N(edge+1)>>r.IntN(41)
	return x
}

func drawNodes(r *rand.Rand) []int {
	var out []int
	for node := 1; node <= 5; node++ {
		if r.IntN(2) == 0 {
			out = append(out, node)
		}
	}
	return out
}

// draw is a message that may be.
func draw(r *rand.Rand) api.Msg {
	number := func() int64 { return r.Int64N(edge+1) >> r.IntN(42) }
	m := api.Msg{
		Kind: 1 + r.IntN(14), From: r.IntN(6), Epoch: number(), Tick: number(), Seq: number(), N: r.IntN(1<<30+1) >> r.IntN(32), Id: number(),
		Op: r.IntN(3), Key: drawText(r, 40), Err: api.Errno(r.IntN(11)), Last: r.IntN(2) == 0, Members: drawNodes(r), Base: number(), Old: drawNodes(r),
	}
	m.To = (m.From + 1 + r.IntN(5)) % 6
	if r.IntN(2) == 0 {
		m.Item = drawItem(r)
	}
	for range r.IntN(5) {
		m.Items = append(m.Items, drawItem(r))
	}
	seq := int64(0)
	for range r.IntN(5) {
		seq += 1 + r.Int64N(edge/4)>>r.IntN(39)
		m.Marks = append(m.Marks, api.Mark{Seq: seq, Key: "m" + drawText(r, 39)})
	}
	return m
}

// P19.1: drawn messages, and their bytes behind drawn changes of one byte.
func TestDrawn(t *testing.T) {
	r := rand.New(rand.NewPCG(19, 2))
	was := api.Msg{}
	for range 5000 {
		m := draw(r)
		if !check(t, "drawn", m) {
			t.Fatalf("P19.1: a drawn one may not be: %v", m)
		}
		if msg.Eq(m, was) != refEq(m, was) {
			t.Fatal("P19.1: Eq of two drawn ones")
		}
		was = m
		b := msg.Encode(m)
		for range 5 {
			c := slices.Clone(b)
			c[r.IntN(len(c))] ^= byte(1 + r.IntN(255))
			told(t, "drawn, one byte changed", c)
			told(t, "drawn, cut behind", b[:r.IntN(len(b))])
			told(t, "drawn, cut ahead", b[1+r.IntN(len(b)):])
			told(t, "drawn, put behind", append(slices.Clip(b), drawText(r, 9)+"x"...))
		}
	}
}

// P19.1: no two messages have the same bytes, and one has the same ones each time.
func TestBytes(t *testing.T) {
	seen := map[string]api.Msg{}
	for _, base := range bases() {
		for _, a := range turns() {
			m := base
			a.set(&m)
			b := string(msg.Encode(m))
			if b != string(msg.Encode(m)) {
				t.Fatalf("P0.5: %s: other bytes", a.name)
			}
			if x, ok := seen[b]; ok && b != "" && !refEq(x, m) {
				t.Fatalf("P19.1: %s: the bytes of another one", a.name)
			}
			seen[b] = m
		}
	}
}

// roomy has room behind the list that is full of x.
func roomy[T any](l []T, x T) []T {
	out := append(slices.Clone(l), x, x, x)
	return out[:len(l)]
}

func room[T any](l []T) []T { return slices.Clone(l[:cap(l)]) }

// P0.3: lists that are handed in are neither changed nor kept, nor is their spare room.
func TestHandedIn(t *testing.T) {
	m := ordinary()
	x := api.Item{Key: "room"}
	m.Items, m.Marks = roomy(m.Items, x), roomy(m.Marks, api.Mark{Seq: 77, Key: "room"})
	m.Members, m.Old = roomy(m.Members, 9), roomy(m.Old, 9)
	items, marks, members, old := room(m.Items), room(m.Marks), room(m.Members), room(m.Old)
	msg.May(m)
	msg.Eq(m, m)
	b := roomy(msg.Encode(m), 0xee)
	bytesWere := room(b)
	got, err := msg.Decode(b)
	if !slices.Equal(items, room(m.Items)) || !slices.Equal(marks, room(m.Marks)) || !slices.Equal(members, room(m.Members)) || !slices.Equal(old, room(m.Old)) {
		t.Error("P0.3: a list of the message was changed")
	}
	if !bytes.Equal(bytesWere, room(b)) {
		t.Error("P0.3: Decode changed its bytes")
	}
	for i := range b[:cap(b)] {
		b[:cap(b)][i] = 0xff
	}
	m.Items[0].Key, m.Marks[0].Key, m.Members[0], m.Old[0] = "?", "?", 2, 2
	if err != api.OK || !refEq(got, ordinary()) {
		t.Error("P0.3: Decode kept its bytes")
	}
}

func spoil[T any](l []T, x T) {
	l = l[:cap(l)]
	for i := range l {
		l[i] = x
	}
}

// P0.3: answers share nothing with one another.
func TestApart(t *testing.T) {
	m := ordinary()
	a, b := msg.Encode(m), msg.Encode(m)
	spoil(a, 0xff)
	x, err := msg.Decode(b)
	y, _ := msg.Decode(b)
	spoil(x.Items, api.Item{Key: "?"})
	spoil(x.Marks, api.Mark{Seq: 99, Key: "?"})
	spoil(x.Members, 9)
	if err != api.OK || !slices.Equal(x.Old, m.Old) {
		t.Error("P0.3: two lists of one answer share memory")
	}
	spoil(x.Old, 9)
	z, _ := msg.Decode(b)
	if !refEq(y, m) || !refEq(z, m) || !bytes.Equal(b, msg.Encode(m)) {
		t.Error("P0.3: answers share memory")
	}
}

// P0.1, P0.2: very long lists and texts end, and nothing comes of them.
func TestLong(t *testing.T) {
	const many = 1 << 20
	for k, f := range []func(m *api.Msg){
		func(m *api.Msg) { m.Key = text(many) },
		func(m *api.Msg) { m.Item.Key = text(many) },
		func(m *api.Msg) { m.Item.Val = text(many) },
		func(m *api.Msg) { m.Items = make([]api.Item, many) },
		func(m *api.Msg) { m.Items = slices.Repeat([]api.Item{{Key: "a"}}, many) },
		func(m *api.Msg) { m.Marks = make([]api.Mark, many) },
		func(m *api.Msg) { m.Members = make([]int, many) },
		func(m *api.Msg) { m.Old = slices.Repeat([]int{1}, many) },
	} {
		m := ordinary()
		f(&m)
		if check(t, "long "+strconv.Itoa(k), m) || msg.Eq(m, ordinary()) || !msg.Eq(m, m) {
			t.Errorf("P0.1: long, %d", k)
		}
	}
	told(t, "very long", make([]byte, 1<<24))
}
