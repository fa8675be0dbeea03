package move_test

import (
	"fmt"
	"math"
	"math/rand/v2"
	"runtime"
	"slices"
	"strings"
	"testing"

	"icehouse/api"
	"icehouse/dev"
	"icehouse/move"
	"icehouse/store"
)

// P22.2: nil: nothing, false; so of no store.
func TestNil(t *testing.T) {
	for _, o := range []*move.Out{nil, new(move.Out), move.Send(nil, epoch, src, dst, all)} {
		o.Freeze()
		if len(o.Next()) != 0 || len(o.Step(have(0, base+1, 0))) != 0 || len(o.Step(have(1, 0, 0))) != 0 || len(o.Step(api.Msg{Kind: api.MKnow, Tick: 1})) != 0 || o.Sent() || o.Done() {
			t.Errorf("P22.2: %v", o)
		}
	}
	for _, x := range []*move.In{nil, new(move.In), move.Take(nil, epoch, src, dst, all)} {
		for _, m := range []api.Msg{{}, items(1, 1, true, "a"), {Kind: api.MItems, N: 1, Id: 1}, {Kind: api.MItems, Tick: 1}, {Kind: api.MMarks, Id: 1}} {
			if l := x.Step(m); len(l) != 0 {
				t.Errorf("P22.2: %v: %v", m, l)
			}
		}
	}
}

// P0.1: a store without parts keeps nothing: so it does not say that anything came.
func TestNoParts(t *testing.T) {
	x := move.Take(new(store.Store), epoch, src, dst, all)
	m := items(5, 1, true, "a")
	is(t, "P22.2: items to another boot", x.Step(m), have(0, 5, 0))
	m.Tick = 0
	is(t, "P22.2: items that can't be kept", x.Step(m))
	o := move.Send(new(store.Store), epoch, src, dst, all)
	o.Step(have(0, 1, 1))
	o.Freeze()
	o.Step(have(3, 0, 0))
	o.Next()
}

// P0.1: whatever is told, each call ends.
func TestWild(t *testing.T) {
	r := rand.New(rand.NewPCG(22, 3))
	number := func() int64 {
		return []int64{0, 1, 2, base, base + 1, -1, 1 << 40, 1 << 62, math.MaxInt64, math.MinInt64, epoch}[r.IntN(11)]
	}
	hash := func() uint64 { return []uint64{0, 1, 1 << 63, math.MaxUint64, r.Uint64()}[r.IntN(5)] }
	text := func() string { return strings.Repeat("\xff", []int{0, 1, 40, 41, 200, 201, 1 << 12}[r.IntN(7)]) }
	for range 300 {
		s, _ := made(t)
		fill(t, s, r.IntN(9))
		var parts []api.Move
		for range r.IntN(6) {
			parts = append(parts, api.Move{From: hash(), To: hash(), Src: int(number()), Dst: int(number())})
		}
		at, from, to := number(), int(number()), int(number())
		o, x := move.Send(s, at, from, to, parts...), move.Take(s, at, from, to, parts...)
		for range 60 {
			m := api.Msg{Kind: r.IntN(16), From: from, To: to, Epoch: at, Tick: number(), Seq: number(), N: int(number()), Id: number(), Last: r.IntN(2) == 0}
			for range r.IntN(7) {
				m.Items = append(m.Items, api.Item{Key: text(), Val: text(), End: number(), Gone: r.IntN(2) == 0})
				m.Marks = append(m.Marks, api.Mark{Seq: number(), Key: text()})
			}
			x.Step(m)
			m.From, m.To = to, from
			o.Step(m)
			o.Next()
			if r.IntN(9) == 0 {
				o.Freeze()
			}
			if o.Done() && !o.Sent() {
				t.Fatal("P22.1: Done, but not Sent")
			}
		}
	}
}

// P0.3: the lists that are handed in are neither changed nor kept, nor their spare room.
func TestHandedIn(t *testing.T) {
	s, _ := made(t)
	fill(t, s, 9)
	b, _ := made(t)
	room := []api.Move{upper, lower, no, no}
	parts := room[:2]
	o, x := move.Send(s, epoch, src, dst, parts...), move.Take(b, epoch, src, dst, parts...)
	if !slices.Equal(room, []api.Move{upper, lower, no, no}) {
		t.Errorf("P0.3: %v", room)
	}
	for i := range room {
		room[i] = no
	}
	m := items(5, 1, true, "a", "b", "c", "d", "e")
	m.Items = m.Items[:2]
	want := slices.Clone(m.Items[:5])
	x.Step(m)
	k := killed(5, 0, "b", "c", "d")
	k.Marks = k.Marks[:1]
	told := slices.Clone(k.Marks[:3])
	x.Step(k)
	if !slices.Equal(m.Items[:5], want) || !slices.Equal(k.Marks[:3], told) {
		t.Errorf("P0.3: %v, %v", m.Items[:5], k.Marks[:3])
	}
	m.Items[0].Val, k.Marks[0].Key = "new", "a"
	if got := fmt.Sprint(entries(b)); got != "[{a v 0 false}]" {
		t.Errorf("P0.3: %s", got)
	}
	n := 0
	for l := o.Next(); len(l) > 0; l = o.Step(have(0, base+1, l[0].N)) {
		n += len(l[0].Items)
	}
	if n != 9 {
		t.Errorf("P0.3: %d entries were sent", n)
	}
}

// P0.3: what a call answers is new memory: whoever writes into it, and into its spare room, changes nothing.
func TestNewMemory(t *testing.T) {
	spoil := func(l []api.Msg) {
		for _, m := range l {
			for i := range m.Items[:cap(m.Items)] {
				m.Items[:cap(m.Items)][i] = api.Item{Key: "bad"}
			}
			for i := range m.Marks[:cap(m.Marks)] {
				m.Marks[:cap(m.Marks)][i] = api.Mark{Seq: 99, Key: "bad"}
			}
		}
		for i := range l[:cap(l)] {
			l[:cap(l)][i] = api.Msg{Kind: 99}
		}
	}
	s, _ := made(t)
	fill(t, s, 6)
	o := move.Send(s, epoch, src, dst, all)
	was := func() api.Msg {
		l := o.Next()
		m := l[0]
		m.Items, m.Marks = slices.Clone(m.Items), slices.Clone(m.Marks)
		spoil(l)
		return m
	}
	m := was()
	is(t, "P0.3: Next again", o.Next(), m)
	spoil(o.Step(have(0, base+1, 1)))
	m = was()
	if m.N != 2 || len(m.Items) != 2 || m.Items[0].Key != "k04" {
		t.Errorf("P0.3: %v", m)
	}
	is(t, "P0.3: Next again", o.Next(), m)
	s.Kill("a", "b")
	o.Freeze()
	spoil(o.Step(have(0, base+1, 2)))
	m = was()
	is(t, "P0.3: marks again", o.Next(), m)
	is(t, "P0.3: marks", o.Next(), marks(t, s, base+1, 0))
	b, _ := made(t)
	x := move.Take(b, epoch, src, dst, all)
	spoil(x.Step(items(5, 1, true, "a")))
	is(t, "P0.3: MHave", x.Step(items(5, 1, true, "a")), have(1, 5, 1))
	spoil(x.Step(killed(5, 0, "a")))
	is(t, "P0.3: MKnow", x.Step(killed(5, 0, "a")), know(1, 5, 1))
}

// P0.5: several moves of one store are each on its own, and the same calls have the same answers.
func TestApart(t *testing.T) {
	s, _ := made(t)
	fill(t, s, 10)
	o, p, q := move.Send(s, epoch, src, dst, all), move.Send(s, epoch, src, dst, all), move.Send(s, epoch, src, 3, lower)
	q.Step(api.Msg{Kind: api.MHave, From: 3, To: src, Epoch: epoch, Tick: 8})
	q.Freeze()
	for n := 1; n <= 3; n++ {
		is(t, "P0.5: Next", o.Next(), p.Next()...)
		is(t, "P0.5: Step", o.Step(have(0, base+1, n)), p.Step(have(0, base+1, n))...)
	}
	if !o.Sent() || !p.Sent() || q.Sent() || o.Done() {
		t.Error("P0.5: Sent")
	}
	b, _ := made(t)
	x, y := move.Take(b, epoch, src, dst, lower), move.Take(b, epoch, 3, dst, upper)
	in, out := halves()
	x.Step(items(5, 1, true, in...))
	m := items(3, 1, true, out...)
	m.From = 3
	if l := y.Step(m); len(l) != 1 || l[0].To != 3 || l[0].Id != 3 || l[0].N != 1 {
		t.Errorf("P22.2: %v", l)
	}
	if len(b.Keys()) != 4 {
		t.Errorf("P22.2: %q", b.Keys())
	}
}

// P22.1: a stream that was sent is not kept, and of one on its way a message.
func TestKeepsLittle(t *testing.T) {
	d := dev.New(2048)
	s, _ := store.Make(d)
	for i := range 300 {
		s.Put(api.Item{Key: fmt.Sprintf("k%03d", i), Val: strings.Repeat("v", 200)})
	}
	const many = 40
	before := held()
	var outs []*move.Out
	for range many {
		o := move.Send(s, epoch, src, dst, all)
		for l := o.Next(); len(l) > 0; l = o.Step(have(0, base+1, l[0].N)) {
		}
		if !o.Sent() {
			t.Fatal("P22.1: not Sent")
		}
		outs = append(outs, o)
	}
	if now := held(); now > before+many*900 {
		t.Errorf("%d bytes are kept of %d streams", now-before, many)
	}
	runtime.KeepAlive(outs)
}

// P22.2: what is told again costs the device nothing.
func TestAgainIsFree(t *testing.T) {
	b, d := made(t)
	x := move.Take(b, epoch, src, dst, lower)
	in, out := halves()
	x.Step(items(5, 1, true, in...))
	x.Step(killed(5, 0, in[0], out[0]))
	calls := d.Calls()
	for range 3 {
		is(t, "P22.2: items again", x.Step(items(5, 1, true, in...)), have(1, 5, 1))
		is(t, "P22.2: marks again", x.Step(killed(5, 0, in[0], out[0])), know(1, 5, 2))
		is(t, "P22.2: no marks", x.Step(killed(5, 2)), know(1, 5, 2))
	}
	is(t, "P22.2: marks that no part covers", x.Step(killed(5, 2, out[0], out[1])), know(1, 5, 4))
	if d.Calls() != calls {
		t.Errorf("P22.2: %d calls of the device for what was known", d.Calls()-calls)
	}
}

// held is how many bytes are in use, when all that can go has gone.
func held() uint64 {
	var s runtime.MemStats
	runtime.GC()
	runtime.GC()
	runtime.ReadMemStats(&s)
	return s.HeapAlloc
}
