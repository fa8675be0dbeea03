package net_test

import (
	"math"
	"math/rand/v2"
	"reflect"
	"runtime"
	"slices"
	"strings"
	"testing"

	"icehouse/api"
	"icehouse/net"
)

const (
	edge = 1 << 40
	most = 300
)

func text(n int) string { return strings.Repeat("k", n) }

// plain is a message that says next to nothing but its Id.
func plain(id int64) api.Msg { return api.Msg{Kind: 1, From: 1, Id: id} }

func plains(ids ...int64) []api.Msg {
	var out []api.Msg
	for _, id := range ids {
		out = append(out, plain(id))
	}
	return out
}

// ordinary is one with something of everything, no two of it the same.
func ordinary() api.Msg {
	return api.Msg{
		Kind: 5, From: 2, To: 3, Epoch: 7, Tick: 90, Seq: 1000, N: 11, Id: 12, Op: 1, Key: "a key", Err: 6, Last: true,
		Item:    api.Item{Key: "one", Val: "a value", End: 70},
		Items:   []api.Item{{Key: "two", Val: "another"}, {Key: "three", Gone: true}},
		Marks:   []api.Mark{{Seq: 8, Key: "x"}, {Seq: 9, Key: "\x00\xff"}},
		Members: []int{1, 3, 4}, Base: 6, Old: []int{1, 4},
	}
}

// full is one each of whose parts is as great as it may be.
func full() api.Msg {
	x := api.Item{Key: text(40), Val: text(200), End: edge}
	return api.Msg{
		Kind: 14, From: 5, To: 0, Epoch: edge, Tick: edge, Seq: edge, N: 1 << 30, Id: edge, Op: 2, Key: text(40), Err: 10, Last: true,
		Item: x, Items: []api.Item{x, x, x, x},
		Marks:   []api.Mark{{Seq: 1, Key: text(40)}, {Seq: 2, Key: "b"}, {Seq: edge - 1, Key: "c"}, {Seq: edge, Key: text(40)}},
		Members: []int{1, 2, 3, 4, 5}, Base: edge, Old: []int{1, 2, 3, 4, 5},
	}
}

// wrong are messages that may not be: each for one field alone, just beyond its limit or far.
func wrong() []api.Msg {
	out := []api.Msg{{}}
	for _, f := range []func(m *api.Msg){
		func(m *api.Msg) { m.Kind = 0 }, func(m *api.Msg) { m.Kind = 15 }, func(m *api.Msg) { m.Kind = -1 }, func(m *api.Msg) { m.Kind = 1<<32 + 1 },
		func(m *api.Msg) { m.From = 6 }, func(m *api.Msg) { m.From = -1 }, func(m *api.Msg) { m.To = 6 }, func(m *api.Msg) { m.To = -1 }, func(m *api.Msg) { m.To = m.From },
		func(m *api.Msg) { m.Epoch = edge + 1 }, func(m *api.Msg) { m.Epoch = -1 }, func(m *api.Msg) { m.Tick = edge + 1 }, func(m *api.Msg) { m.Tick = -1 },
		func(m *api.Msg) { m.Seq = edge + 1 }, func(m *api.Msg) { m.Seq = math.MinInt64 }, func(m *api.Msg) { m.Id = math.MaxInt64 }, func(m *api.Msg) { m.Id = -1 },
		func(m *api.Msg) { m.Base = edge + 1 }, func(m *api.Msg) { m.Base = -1 }, func(m *api.Msg) { m.N = 1<<30 + 1 }, func(m *api.Msg) { m.N = -1 },
		func(m *api.Msg) { m.Op = 3 }, func(m *api.Msg) { m.Op = -1 }, func(m *api.Msg) { m.Key = text(41) }, func(m *api.Msg) { m.Key = text(1 << 20) },
		func(m *api.Msg) { m.Err = 11 }, func(m *api.Msg) { m.Err = -1 },
		func(m *api.Msg) { m.Item = api.Item{Val: "v"} }, func(m *api.Msg) { m.Item.Val = text(201) }, func(m *api.Msg) { m.Item.Gone = true },
		func(m *api.Msg) { m.Items[1].Val = "v" }, func(m *api.Msg) { m.Items[0] = api.Item{} }, func(m *api.Msg) { m.Items = slices.Repeat(m.Items[:1], 5) },
		func(m *api.Msg) { m.Marks[1].Seq = 8 }, func(m *api.Msg) { m.Marks[0].Key = "" }, func(m *api.Msg) { m.Marks = make([]api.Mark, 5) },
		func(m *api.Msg) { m.Members = []int{2, 1} }, func(m *api.Msg) { m.Members = []int{6} }, func(m *api.Msg) { m.Old = []int{0, 1} }, func(m *api.Msg) { m.Old = make([]int, 1<<20) },
	} {
		m := ordinary()
		f(&m)
		out = append(out, m)
	}
	return out
}

// odd are positions about none, about the limit, and such as a narrower int would take for others.
func odd() []int {
	return []int{
		-1, -2, 300, 301, 1 << 8, 1 << 16, 1 << 31, 1 << 32, 1<<32 + 1, -1 << 32, 1<<32 - 1, 1 << 62,
		math.MaxInt, math.MaxInt - 1, math.MinInt, math.MinInt + 1,
	}
}

// same holds empty lists for none, and asks nothing of the program.
func same(a, b api.Msg) bool { return reflect.DeepEqual(bare(a), bare(b)) }

func bare(m api.Msg) api.Msg {
	m.Items, m.Marks, m.Members, m.Old = clone(m.Items), clone(m.Marks), clone(m.Members), clone(m.Old)
	return m
}

// clone is a copy in memory of its own; nil of an empty list.
func clone[T any](l []T) []T { return append([]T(nil), l...) }

// model is a Net beside a list of what must be on its way, which is told the same.
type model struct {
	t   *testing.T
	x   *net.Net
	way []api.Msg
}

func newModel(t *testing.T) *model { return &model{t: t, x: net.New()} }

func (m *model) has(i int) bool { return i >= 0 && i < len(m.way) }

func (m *model) len() {
	m.t.Helper()
	if got := m.x.Len(); got != len(m.way) {
		m.t.Fatalf("P20.1: Len: %d, want %d", got, len(m.way))
	}
}

// send sends messages that may be.
func (m *model) send(ms ...api.Msg) {
	m.t.Helper()
	want := min(len(ms), most-len(m.way))
	for _, x := range ms[:want] {
		m.way = append(m.way, bare(x))
	}
	if got := m.x.Send(ms...); got != want {
		m.t.Fatalf("P20.1: Send of %d: %d, want %d", len(ms), got, want)
	}
	m.len()
}

// came holds what was answered of the i-th against what must be.
func (m *model) came(call string, i int, got api.Msg, ok bool) {
	m.t.Helper()
	want := api.Msg{}
	if m.has(i) {
		want = m.way[i]
	}
	if ok != m.has(i) || !same(got, want) {
		m.t.Fatalf("P20.1: %s(%d) of %d: %v, %v, want %v", call, i, len(m.way), ok, got, want)
	}
}

func (m *model) look(at ...int) {
	m.t.Helper()
	for _, i := range at {
		got, ok := m.x.Look(i)
		m.came("Look", i, got, ok)
		m.len()
	}
}

func (m *model) goes(i int) {
	m.t.Helper()
	if m.has(i) {
		m.way = slices.Delete(m.way, i, i+1)
	}
	m.len()
}

func (m *model) take(at ...int) {
	m.t.Helper()
	for _, i := range at {
		got, ok := m.x.Take(i)
		m.came("Take", i, got, ok)
		m.goes(i)
	}
}

func (m *model) drop(at ...int) {
	m.t.Helper()
	for _, i := range at {
		if got := m.x.Drop(i); got != m.has(i) {
			m.t.Fatalf("P20.1: Drop(%d) of %d: %v", i, len(m.way), got)
		}
		m.goes(i)
	}
}

// all looks at all that is on its way, and a little about it.
func (m *model) all() {
	m.t.Helper()
	for i := -2; i < len(m.way)+2; i++ {
		m.look(i)
	}
}

// end takes all, and so holds all that is kept against the list.
func (m *model) end() {
	m.t.Helper()
	m.all()
	for len(m.way) > 0 {
		m.take(0)
	}
	m.take(0, -1)
	m.all()
}

// P20.1: by hand, without the model: what each call answers, one behind the other.
func TestKnown(t *testing.T) {
	x := net.New()
	count := func(how string, got, want int) {
		t.Helper()
		if got != want {
			t.Errorf("P20.1: %s: %d, want %d", how, got, want)
		}
	}
	comes := func(how string, m api.Msg, ok bool, want int64) {
		t.Helper()
		if !ok || !same(m, plain(want)) {
			t.Errorf("P20.1: %s: %v, %v, want the one with Id %d", how, ok, m, want)
		}
	}
	count("Len at first", x.Len(), 0)
	count("Send of none", x.Send(), 0)
	count("Send of three", x.Send(plains(1, 2, 3)...), 3)
	count("Send of one", x.Send(plain(4)), 1)
	count("Send of two, one of which may not be", x.Send(api.Msg{}, plain(5)), 1)
	count("Len", x.Len(), 5)
	m, ok := x.Take(1)
	comes("Take(1)", m, ok, 2)
	m, ok = x.Look(1)
	comes("Look(1)", m, ok, 3)
	m, ok = x.Look(1)
	comes("Look(1) again", m, ok, 3)
	count("Len behind Take and Look", x.Len(), 4)
	if !x.Drop(0) {
		t.Error("P20.1: Drop(0): false")
	}
	m, ok = x.Take(2)
	comes("Take(2), the last one", m, ok, 5)
	m, ok = x.Take(0)
	comes("Take(0)", m, ok, 3)
	m, ok = x.Take(0)
	comes("Take(0), the only one", m, ok, 4)
	count("Len at the end", x.Len(), 0)
	if m, ok := x.Take(0); ok || !same(m, api.Msg{}) {
		t.Errorf("P20.1: Take(0) of none: %v, %v", ok, m)
	}
	if m, ok := x.Look(0); ok || !same(m, api.Msg{}) || x.Drop(0) {
		t.Errorf("P20.1: Look(0) or Drop(0) of none: %v, %v", ok, m)
	}
}

// P20.1: each one goes from each place, and the others stay in order.
func TestPlaces(t *testing.T) {
	for n := range int64(12) {
		for i := -1; i <= int(n); i++ {
			for _, call := range []func(m *model){
				func(m *model) { m.take(i) },
				func(m *model) { m.drop(i) },
				func(m *model) { m.look(i, i) },
			} {
				m := newModel(t)
				for id := range n {
					m.send(plain(id))
				}
				call(m)
				m.all()
				m.send(plain(n), ordinary())
				m.end()
			}
		}
	}
}

// P20.1: there is none at a position that is below 0, or behind the last one, and asking for it changes nothing.
func TestWrongPlaces(t *testing.T) {
	m := newModel(t)
	for range most {
		at := append(odd(), len(m.way), len(m.way)+1)
		m.look(at...)
		m.drop(at...)
		m.take(at...)
		m.send(plain(int64(len(m.way))))
	}
	m.look(odd()...)
	m.drop(odd()...)
	m.take(odd()...)
	m.end()
}

// P20.1: what may not be is lost: alone, and ahead of, between and behind such as may.
func TestLost(t *testing.T) {
	for k, bad := range wrong() {
		m := newModel(t)
		lost := func(how string, want int, ms ...api.Msg) {
			t.Helper()
			if got := m.x.Send(ms...); got != want {
				t.Errorf("P20.1: %d: Send of one that may not be, %s: %d, want %d", k, how, got, want)
			}
		}
		lost("alone", 0, bad)
		m.len()
		lost("thrice", 0, bad, bad, bad)
		m.len()
		lost("first", 2, bad, plain(1), plain(2))
		lost("between", 2, plain(3), bad, bad, plain(4))
		lost("last", 1, plain(5), bad)
		m.way = plains(1, 2, 3, 4, 5)
		m.len()
		m.send(ordinary())
		m.end()
	}
	m := newModel(t)
	if got := m.x.Send(wrong()...); got != 0 {
		t.Errorf("P20.1: Send of all that may not be: %d", got)
	}
	m.end()
}

// P20.1: what is at the limits may be, and comes as it was sent, each field of it.
func TestWhatComes(t *testing.T) {
	m := newModel(t)
	m.send(full(), ordinary(), plain(0), api.Msg{Kind: 14, To: 5})
	for kind := 1; kind <= 14; kind++ {
		x := ordinary()
		x.Kind = kind
		m.send(x)
	}
	for _, f := range []func(x *api.Msg){
		func(x *api.Msg) { x.From, x.To = 0, 5 }, func(x *api.Msg) { x.From, x.To = 5, 0 }, func(x *api.Msg) { x.Epoch = 8 }, func(x *api.Msg) { x.Tick = 91 },
		func(x *api.Msg) { x.Seq = 0 }, func(x *api.Msg) { x.N = 12 }, func(x *api.Msg) { x.Id = 13 }, func(x *api.Msg) { x.Op = 2 }, func(x *api.Msg) { x.Key = "" },
		func(x *api.Msg) { x.Key = "\xff\x00雪" }, func(x *api.Msg) { x.Err = 0 }, func(x *api.Msg) { x.Last = false }, func(x *api.Msg) { x.Base = 0 },
		func(x *api.Msg) { x.Item = api.Item{} }, func(x *api.Msg) { x.Item = api.Item{Key: "k"} }, func(x *api.Msg) { x.Item = api.Item{Key: "k", Gone: true} },
		func(x *api.Msg) { x.Items = nil }, func(x *api.Msg) { x.Items = []api.Item{} }, func(x *api.Msg) { x.Items = x.Items[:1] }, func(x *api.Msg) { x.Items[1].Gone = false },
		func(x *api.Msg) { slices.Reverse(x.Items) }, func(x *api.Msg) { x.Items = []api.Item{x.Item, x.Item} }, func(x *api.Msg) { x.Items[0].End = 3 },
		func(x *api.Msg) { x.Marks = nil }, func(x *api.Msg) { x.Marks = x.Marks[1:] }, func(x *api.Msg) { x.Marks[0].Key = text(40) },
		func(x *api.Msg) { x.Members = nil }, func(x *api.Msg) { x.Old = nil }, func(x *api.Msg) { x.Members, x.Old = x.Old, x.Members }, func(x *api.Msg) { x.Old = []int{5} },
	} {
		x := ordinary()
		f(&x)
		m.send(x)
	}
	m.end()
}

// P20.1: 300 at the most, however they come there; the others are lost, the first ones are on their way.
func TestFull(t *testing.T) {
	var many []api.Msg
	for id := range int64(most + 50) {
		many = append(many, plain(id))
	}
	for _, ahead := range []int{0, 1, 150, 298, 299, 300} {
		m := newModel(t)
		for _, x := range many[:ahead] {
			m.send(x)
		}
		m.send(many...)
		m.send(many[0])
		m.send(many...)
		m.send()
		m.end()
	}
	for _, n := range []int{298, 299, 300, 301, 302} {
		m := newModel(t)
		m.send(many[:n]...)
		m.send(plains(1000, 1001)...)
		m.end()
	}
}

// P20.1: such as may not be take no room, neither ahead of the limit nor at it, and don't count.
func TestFullOfWrong(t *testing.T) {
	var mixed []api.Msg
	for id := range int64(most + 2) {
		mixed = append(mixed, api.Msg{}, plain(id))
	}
	x := net.New()
	if got := x.Send(mixed...); got != most || x.Len() != most {
		t.Errorf("P20.1: Send of 302 and as many that may not be: %d, Len %d", got, x.Len())
	}
	for i := range most {
		if m, ok := x.Look(i); !ok || !same(m, plain(int64(i))) {
			t.Errorf("P20.1: Look(%d) of 300: %v, %v", i, ok, m)
		}
	}
	if got := x.Send(wrong()...); got != 0 || x.Len() != most {
		t.Errorf("P20.1: Send of such as may not be to 300: %d, Len %d", got, x.Len())
	}
	x.Drop(0)
	if got := x.Send(mixed...); got != 1 || x.Len() != most {
		t.Errorf("P20.1: Send to 299: %d, Len %d", got, x.Len())
	}
}

// P20.1: where one went another one may come; where one was looked at, none.
func TestRoomAgain(t *testing.T) {
	m := newModel(t)
	for id := range int64(most) {
		m.send(plain(id))
	}
	m.look(0, 299)
	m.send(plain(1000))
	m.take(299)
	m.send(plains(1001, 1002)...)
	m.drop(0)
	m.send(plains(1003, 1004)...)
	m.take(300, -1)
	m.drop(300, -1)
	m.send(plain(1005))
	m.take(150, 0, 297)
	m.send(plains(1006, 1007, 1008, 1009)...)
	m.end()
	m.send(plain(1010))
	m.end()
}

// roomy has room behind the list, which is full of x.
func roomy[T any](l []T, x T) []T {
	return append(clone(l), x, x, x)[:len(l)]
}

// room is a copy of the list and of the room behind it.
func room[T any](l []T) []T { return clone(l[:cap(l)]) }

// spoil writes x all over the list and the room behind it.
func spoil[T any](l []T, x T) {
	l = l[:cap(l)]
	for i := range l {
		l[i] = x
	}
}

// spoilMsg writes all over the lists of a message.
func spoilMsg(m api.Msg) {
	spoil(m.Items, api.Item{Key: "?"})
	spoil(m.Marks, api.Mark{Seq: 99, Key: "?"})
	spoil(m.Members, 2)
	spoil(m.Old, 3)
}

// P0.3, P20.1: the messages and their lists are neither changed nor kept, the room behind them neither.
func TestHandedIn(t *testing.T) {
	m := ordinary()
	m.Items, m.Marks = roomy(m.Items, api.Item{Key: "room"}), roomy(m.Marks, api.Mark{Seq: 77, Key: "room"})
	m.Members, m.Old = roomy(m.Members, 9), roomy(m.Old, 9)
	items, marks, members, old := room(m.Items), room(m.Marks), room(m.Members), room(m.Old)
	ms := []api.Msg{plain(1), m, {}, m, plain(2)}[:4]
	x := net.New()
	if got := x.Send(ms...); got != 3 {
		t.Fatalf("P20.1: Send: %d", got)
	}
	x.Send(plain(3))
	x.Take(0)
	x.Drop(0)
	if !same(ms[0], plain(1)) || !same(ms[1], ordinary()) || !same(ms[2], api.Msg{}) || !same(ms[3], ordinary()) || !same(ms[:5][4], plain(2)) {
		t.Error("P0.3: the messages were changed")
	}
	if !slices.Equal(items, room(m.Items)) || !slices.Equal(marks, room(m.Marks)) || !slices.Equal(members, room(m.Members)) || !slices.Equal(old, room(m.Old)) {
		t.Error("P0.3: a list of a message was changed")
	}
	spoilMsg(m)
	clear(ms[:5])
	if got, ok := x.Look(0); !ok || !same(got, ordinary()) {
		t.Errorf("P20.1: a list of a message was kept: %v, %v", ok, got)
	}
	if got, ok := x.Look(1); !ok || !same(got, plain(3)) {
		t.Errorf("P20.1: the one behind: %v, %v", ok, got)
	}
}

// P0.3, P20.1: what is answered is a copy: whoever writes into it changes nothing on its way, and nothing else that was answered.
func TestApart(t *testing.T) {
	x := net.New()
	for range 2 {
		x.Send(ordinary(), ordinary())
		m := ordinary()
		x.Send(m, m)
	}
	was, _ := x.Look(3)
	for i := range 8 {
		m, ok := x.Look(i)
		if !ok || !same(m, ordinary()) {
			t.Fatalf("P20.1: Look(%d): %v, %v", i, ok, m)
		}
		spoilMsg(m)
	}
	taken, ok := x.Take(4)
	if !ok || !same(taken, ordinary()) {
		t.Fatalf("P20.1: Take(4): %v, %v", ok, taken)
	}
	spoilMsg(taken)
	x.Send(plain(1))
	x.Drop(1)
	for i := range 6 {
		if m, ok := x.Take(0); !ok || !same(m, ordinary()) {
			t.Fatalf("P20.1: Take %d: %v, %v", i, ok, m)
		}
	}
	if !same(was, ordinary()) {
		t.Errorf("P0.3: what Look answered was changed: %v", was)
	}
}

// P0.3: the lists of one answer share nothing with one another.
func TestListsApart(t *testing.T) {
	x := net.New()
	m := ordinary()
	m.Old = m.Members
	x.Send(m, m)
	for range 2 {
		got, ok := x.Look(0)
		spoil(got.Members, 2)
		if !ok || !slices.Equal(got.Old, []int{1, 3, 4}) {
			t.Errorf("P0.3: Look: Old is %v", got.Old)
		}
		got, ok = x.Take(0)
		spoil(got.Old, 2)
		if !ok || !slices.Equal(got.Members, []int{1, 3, 4}) {
			t.Errorf("P0.3: Take: Members are %v", got.Members)
		}
	}
}

// P0.3: what was taken stays as it is, whatever comes behind it.
func TestTakenStays(t *testing.T) {
	m := newModel(t)
	other := ordinary()
	other.Key, other.Items, other.Marks, other.Members, other.Old = "other", other.Items[:1], other.Marks[:1], []int{2}, []int{5}
	m.send(ordinary(), other, other)
	seen, _ := m.x.Look(0)
	taken, _ := m.x.Take(0)
	m.goes(0)
	m.drop(0)
	m.send(other, other, full())
	m.take(0)
	if !same(seen, ordinary()) || !same(taken, ordinary()) {
		t.Errorf("P0.3: %v, %v", seen, taken)
	}
	m.end()
}

// P20.1: a nil *Net: 0, false, whatever it is told.
func TestNil(t *testing.T) {
	var none *net.Net
	for range 2 {
		if none.Send() != 0 || none.Send(plains(1, 2, 3)...) != 0 || none.Send(wrong()...) != 0 || none.Len() != 0 {
			t.Error("P20.1: nil: Send or Len")
		}
		for _, i := range append(odd(), 0, 1, 2) {
			taken, ok := none.Take(i)
			seen, yes := none.Look(i)
			if ok || yes || none.Drop(i) || !same(taken, api.Msg{}) || !same(seen, api.Msg{}) {
				t.Errorf("P20.1: nil: Take, Look or Drop of %d: %v, %v", i, taken, seen)
			}
		}
	}
}

// P0.1: a Net that New did not make is one that holds nothing, whatever it is told first.
func TestZero(t *testing.T) {
	for _, first := range []func(m *model){
		func(m *model) { m.send() },
		func(m *model) { m.take(0) },
		func(m *model) { m.drop(0) },
		func(m *model) { m.look(0) },
	} {
		m := &model{t: t, x: &net.Net{}}
		m.len()
		first(m)
		m.send(ordinary(), plain(2))
		m.end()
	}
}

// P0.5: what one Net was told says nothing of another one.
func TestTwo(t *testing.T) {
	a, b := newModel(t), newModel(t)
	a.send(plains(1, 2, 3)...)
	b.len()
	b.send(ordinary())
	a.take(1)
	b.all()
	b.send(plains(4, 5)...)
	a.drop(0)
	b.end()
	a.end()
}

// P0.4: no messages at all, as nil and as an empty list.
func TestNone(t *testing.T) {
	m := newModel(t)
	for range 2 {
		m.send([]api.Msg(nil)...)
		m.send([]api.Msg{}...)
		m.send(plain(1))
	}
	m.end()
}

// P20.1: all runs of five calls.
func TestAllShort(t *testing.T) {
	calls := []func(m *model){
		func(m *model) { m.send(plain(7)) },
		func(m *model) { m.send(ordinary(), plain(8), plain(9)) },
		func(m *model) { m.take(0) },
		func(m *model) { m.take(1) },
		func(m *model) { m.take(len(m.way) - 1) },
		func(m *model) { m.drop(0) },
		func(m *model) { m.drop(2) },
		func(m *model) { m.look(1, 0) },
	}
	for run := range 1 << 15 {
		m := newModel(t)
		for i := range 5 {
			calls[run>>(3*i)&7](m)
		}
		m.end()
	}
}

func drawText(r *rand.Rand, least, most int) string {
	b := make([]byte, least+r.IntN(most-least+1))
	for i := range b {
		b[i] = byte(r.IntN(256))
	}
	return string(b)
}

func drawNodes(r *rand.Rand) []int {
	var out []int
	for node := 1; node <= 5; node++ {
		if r.IntN(2) == 0 {
			out = append(out, node)
		}
	}
	return out
}

// draw is a message that may be.
func draw(r *rand.Rand) api.Msg {
	number := func() int64 { return r.Int64N(edge+1) >> r.IntN(42) }
	entry := func() api.Item {
		if r.IntN(3) == 0 {
			return api.Item{Key: drawText(r, 1, 40), Gone: true}
		}
		return api.Item{Key: drawText(r, 1, 40), Val: drawText(r, 0, 200), End: number()}
	}
	m := api.Msg{
		Kind: 1 + r.IntN(14), From: r.IntN(6), Epoch: number(), Tick: number(), Seq: number(), N: r.IntN(1<<30+1) >> r.IntN(32), Id: number(),
		Op: r.IntN(3), Key: drawText(r, 0, 40), Err: api.Errno(r.IntN(11)), Last: r.IntN(2) == 0, Members: drawNodes(r), Base: number(), Old: drawNodes(r),
	}
	m.To = (m.From + 1 + r.IntN(5)) % 6
	if r.IntN(2) == 0 {
		m.Item = entry()
	}
	for range r.IntN(5) {
		m.Items = append(m.Items, entry())
	}
	seq := int64(0)
	for range r.IntN(5) {
		seq += 1 + r.Int64N(edge/4)>>r.IntN(39)
		m.Marks = append(m.Marks, api.Mark{Seq: seq, Key: drawText(r, 1, 40)})
	}
	return m
}

// P20.1: long runs drawn at random, of few that are on their way and of as many as go.
func TestDrawn(t *testing.T) {
	r := rand.New(rand.NewPCG(20, 1))
	fullest := 0
	for run := range 40 {
		m := newModel(t)
		for range 400 {
			i := r.IntN(len(m.way)+2) - 1
			switch n := r.IntN(40); {
			case n < 10+run/2:
				ms := make([]api.Msg, r.IntN(4))
				for k := range ms {
					ms[k] = draw(r)
				}
				m.send(ms...)
			case n < 32:
				m.take(i)
			case n < 36:
				m.drop(i)
			default:
				m.look(i)
			}
			fullest = max(fullest, len(m.way))
		}
		m.end()
	}
	if fullest != most {
		t.Errorf("no run had %d on their way: %d", most, fullest)
	}
}

// P0.1, P20.1: very many messages, and very many calls; each call ends in time.
func TestLong(t *testing.T) {
	const n = 1 << 18
	x := net.New()
	if got := x.Send(make([]api.Msg, n)...); got != 0 || x.Len() != 0 {
		t.Errorf("P20.1: Send of very many that may not be: %d, Len %d", got, x.Len())
	}
	if got := x.Send(slices.Repeat([]api.Msg{full()}, n)...); got != most || x.Len() != most {
		t.Errorf("P20.1: Send of very many: %d, Len %d", got, x.Len())
	}
	for range most {
		x.Drop(0)
	}
	for id := range int64(n) {
		if got := x.Send(plain(id)); got != 1 {
			t.Fatalf("P20.1: Send %d: %d", id, got)
		}
		if id < most-1 {
			continue
		}
		if m, ok := x.Take(0); !ok || m.Id != id-most+1 {
			t.Fatalf("P20.1: Take of %d: %v, %v", id-most+1, ok, m)
		}
	}
}

// held is how many bytes are in use, when all that can go has gone.
func held() uint64 {
	var s runtime.MemStats
	runtime.GC()
	runtime.GC()
	runtime.ReadMemStats(&s)
	return s.HeapAlloc
}

// What is kept of a text that a key was a piece of is that piece.
func TestKeepsPieces(t *testing.T) {
	const room = 1 << 22
	before := held()
	x := net.New()
	for id := range int64(most) {
		m := plain(id)
		m.Key = strings.Repeat("t", 1<<17)[:20]
		m.Items = []api.Item{{Key: strings.Repeat("t", 1<<17)[:20], Val: strings.Repeat("t", 1<<17)[:20]}}
		x.Send(m)
	}
	if now := held(); now > before+room {
		t.Errorf("%d bytes are kept of pieces", now-before)
	}
	if x.Len() != most {
		t.Errorf("P20.1: Len: %d, want %d", x.Len(), most)
	}
}
