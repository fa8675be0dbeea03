package move_test

import (
	"fmt"
	"math"
	"math/rand/v2"
	"slices"
	"strings"
	"testing"

	"icehouse/api"
	"icehouse/dev"
	"icehouse/mix"
	"icehouse/move"
	"icehouse/msg"
	"icehouse/store"
)

// The move of most tests: the epoch 9, from the node 1 to the node 2.
const (
	epoch = 9
	src   = 1
	dst   = 2
	base  = 1 << 20 // the Ids of the first start lie above it
)

var (
	all    = api.Move{From: 0, To: math.MaxUint64, Src: src, Dst: dst}
	lower  = api.Move{From: 0, To: 1<<63 - 1, Src: src, Dst: dst}
	upper  = api.Move{From: 1 << 63, To: math.MaxUint64, Src: src, Dst: dst}
	middle = api.Move{From: 1 << 62, To: 3 << 62, Src: src, Dst: dst}
	no     = api.Move{From: 2, To: 1, Src: src, Dst: dst}
)

func made(t *testing.T) (*store.Store, *dev.Dev) {
	t.Helper()
	d := dev.New(600)
	s, err := store.Make(d)
	if err != api.OK {
		t.Fatal(err)
	}
	return s, d
}

func opened(t *testing.T, d *dev.Dev) *store.Store {
	t.Helper()
	s, err := store.Open(d)
	if err != api.OK {
		t.Fatal(err)
	}
	return s
}

// fill puts n entries, whose keys have the order of their numbers.
func fill(t *testing.T, s *store.Store, n int) {
	t.Helper()
	for i := range n {
		if err := s.Put(api.Item{Key: fmt.Sprintf("k%02d", i), Val: fmt.Sprint("v", i), End: int64(i % 3)}); err != api.OK {
			t.Fatal(err)
		}
	}
}

// lose kills so many keys that the journal has not the marks any more that it had.
func lose(t *testing.T, s *store.Store) {
	t.Helper()
	for last := s.Seq(); s.Base() <= last; {
		if _, err := s.Kill(strings.Repeat("z", 40)); err != api.OK {
			t.Fatal(err)
		}
	}
}

func entries(s *store.Store) []api.Item { return s.Between(0, math.MaxUint64, "", math.MaxInt) }

func have(tick, id int64, n int) api.Msg {
	return api.Msg{Kind: api.MHave, From: dst, To: src, Epoch: epoch, Tick: tick, Id: id, N: n}
}

func know(tick, id, seq int64) api.Msg {
	return api.Msg{Kind: api.MKnow, From: dst, To: src, Epoch: epoch, Tick: tick, Id: id, Seq: seq}
}

// is says that the messages are those that are wanted.
func is(t *testing.T, what string, got []api.Msg, want ...api.Msg) {
	t.Helper()
	if len(got) != len(want) {
		t.Fatalf("%s: %v, want %v", what, got, want)
	}
	for i := range got {
		if !same(got[i], want[i]) {
			t.Fatalf("%s: %v, want %v", what, got, want)
		}
	}
}

// same tells whether all fields are the same, be they within their limits or not.
func same(a, b api.Msg) bool {
	if msg.May(a) && msg.May(b) && !msg.Eq(a, b) {
		return false
	}
	items, marks := slices.Equal(a.Items, b.Items), slices.Equal(a.Marks, b.Marks)
	a.Items, b.Items, a.Marks, b.Marks = nil, nil, nil, nil
	return items && marks && fmt.Sprint(a) == fmt.Sprint(b)
}

// P22.1: the messages of a stream by hand: at most 4 entries each, N rising, Last on the last one alone; each is answered till dst has it.
func TestStream(t *testing.T) {
	for size := range 14 {
		s, _ := made(t)
		s.Kill("x", "y")
		fill(t, s, size)
		want := entries(s)
		o := move.Send(s, epoch, src, dst, all)
		o.Step(have(7, 0, 0)) // the second stream, to the boot 7
		for n := 1; ; n++ {
			part := want[min(4*(n-1), size):min(4*n, size)]
			m := api.Msg{Kind: api.MItems, From: src, To: dst, Epoch: epoch, Tick: 7, Seq: int64(n + 1), N: n, Id: base + 2, Last: 4*n >= size, Items: part}
			is(t, "P22.1: Next", o.Next(), m)
			is(t, "P22.1: Next again", o.Next(), m)
			if o.Sent() || o.Done() {
				t.Fatalf("P22.1: %d entries, %d messages: Sent %v, Done %v", size, n, o.Sent(), o.Done())
			}
			s.Kill("x") // the next message has another Seq; this one stays as it was
			is(t, "P22.1: Next behind a Kill", o.Next(), m)
			if n > 1 {
				is(t, "P22.1: MHave of fewer", o.Step(have(7, base+2, n-1)))
			}
			got := o.Step(have(7, base+2, n))
			if m.Last {
				is(t, "P22.1: MHave of all", got)
				break
			}
			is(t, "P22.1: MHave of one more", got, o.Next()...)
		}
		if !o.Sent() || o.Done() {
			t.Fatalf("P22.1: %d entries, all are there: Sent %v, Done %v", size, o.Sent(), o.Done())
		}
		is(t, "P22.1: Next of what is sent", o.Next())
		is(t, "P22.1: MHave of all again", o.Step(have(7, base+2, max(1, (size+3)/4))))
		o.Freeze()
		if !o.Sent() || o.Done() {
			t.Fatalf("P22.1: %d entries, marks are not known: Sent %v, Done %v", size, o.Sent(), o.Done())
		}
	}
}

// P22.1: an entry is read when its message is: what was put or killed ahead of that is told, what comes behind is not; a stream may end without entries.
func TestRead(t *testing.T) {
	s, _ := made(t)
	fill(t, s, 9)
	o := move.Send(s, epoch, src, dst, all)
	s.Put(api.Item{Key: "k", Val: "ahead"})
	s.Put(api.Item{Key: "k030", Val: "between"})
	s.Put(api.Item{Key: "k04", Val: "new"})
	s.Kill("k05", "k00")
	got := o.Step(have(0, base+1, 1))
	if len(got) != 1 || got[0].Seq != 2 || fmt.Sprint(got[0].Items) != "[{k030 between 0 false} {k04 new 0 false} {k06 v6 0 false} {k07 v7 1 false}]" || got[0].Last {
		t.Fatalf("P22.1: the second message: %v", got)
	}
	s.Drop("k08")
	is(t, "P22.1: the third one", o.Step(have(0, base+1, 2)), api.Msg{Kind: api.MItems, From: src, To: dst, Epoch: epoch, Seq: 2, N: 3, Id: base + 1, Last: true})
	s.Put(api.Item{Key: "z"})
	is(t, "P22.1: behind the last", o.Step(have(0, base+1, 3)))
	if !o.Sent() {
		t.Error("P22.1: not Sent")
	}
}

// P22.1: the parts' entries in the order of the parts, in each by keys rising; each key once, however many parts have it; of no part and of one without hashes none.
func TestParts(t *testing.T) {
	s, _ := made(t)
	fill(t, s, 40)
	for _, parts := range [][]api.Move{nil, {}, {no}, {all}, {lower}, {upper, lower}, {lower, upper}, {middle, all}, {all, all}, {upper, no, middle, lower, all, no}, {no, middle, middle, no}, {no, no, upper, all, middle}} {
		var want []api.Item
		seen := map[string]bool{}
		for _, p := range parts {
			for _, x := range s.Between(p.From, p.To, "", math.MaxInt) {
				if !seen[x.Key] {
					want = append(want, x)
				}
				seen[x.Key] = true
			}
		}
		o := move.Send(s, epoch, src, dst, parts...)
		var got []api.Item
		n := 0
		for l := o.Next(); len(l) > 0; l = o.Step(have(0, base+1, n)) {
			if n++; len(l) != 1 || l[0].N != n || len(l[0].Items) != min(4, len(want)-len(got)) {
				t.Fatalf("P22.1: %v: %v", parts, l)
			}
			got = append(got, l[0].Items...)
			if l[0].Last != (len(got) == len(want)) {
				t.Fatalf("P22.1: %v: Last %v with %d of %d", parts, l[0].Last, len(got), len(want))
			}
		}
		if !slices.Equal(got, want) || !o.Sent() || n != max(1, (len(want)+3)/4) {
			t.Errorf("P22.1: %v: %v in %d, want %v", parts, got, n, want)
		}
	}
}

// P22.1: the hashes at the ends of a part are in it.
func TestEnds(t *testing.T) {
	s, _ := made(t)
	fill(t, s, 3)
	h := mix.Of("k01")
	for _, c := range []struct {
		part api.Move
		want bool
	}{{api.Move{From: h, To: h}, true}, {api.Move{From: h, To: math.MaxUint64}, true}, {api.Move{To: h}, true}, {api.Move{From: h + 1, To: math.MaxUint64}, false}, {api.Move{To: h - 1}, false}, {api.Move{From: h, To: h - 1}, false}} {
		l := move.Send(s, epoch, src, dst, c.part).Next()
		if got := slices.ContainsFunc(l[0].Items, func(x api.Item) bool { return x.Key == "k01" }); got != c.want {
			t.Errorf("P22.1: %v: %v, want %v", c.part, got, c.want)
		}
		b, _ := made(t)
		x := move.Take(b, epoch, src, dst, c.part)
		b.Put(api.Item{Key: "k01"})
		x.Step(items(base, 1, true))
		if got := len(b.Keys()) == 0; got != c.want {
			t.Errorf("P22.2: %v: gone %v, want %v", c.part, got, c.want)
		}
		x.Step(items(base, 2, true, "k01"))
		if got := len(b.Keys()) == 1; !got {
			t.Errorf("P22.2: %v: %q", c.part, b.Keys())
		}
		if y, _ := b.Get("k01", 0); (y.Val == "v") != c.want {
			t.Errorf("P22.2: %v: %v, put %v", c.part, y, c.want)
		}
	}
}

// P22.1: what dst says, and whether a new stream begins, or the next message is read, or nothing comes of it.
func TestHears(t *testing.T) {
	const (
		nothing = iota
		next
		renew
	)
	other := func(m api.Msg, change func(m *api.Msg)) api.Msg {
		change(&m)
		return m
	}
	id := int64(base + 2)
	for k, c := range []struct {
		m    api.Msg
		want int
	}{
		{have(3, id, 2), next},
		{have(3, id, 3), nothing}, {have(3, id, 1<<30), nothing}, {have(3, id, math.MaxInt), nothing},
		{have(3, id, 1), nothing}, {have(3, id, -1), nothing}, {have(3, id, math.MinInt), nothing},
		{have(3, id, 0), renew},
		{have(3, id-1, 2), nothing}, {have(3, id+1, 2), nothing}, {have(3, id-1, 0), nothing}, {have(3, id+1, 0), nothing}, {have(3, 0, 0), nothing}, {have(3, math.MaxInt64, 2), nothing}, {have(3, math.MinInt64, 2), nothing},
		{have(4, id, 2), renew}, {have(2, id, 2), renew}, {have(0, 0, 0), renew}, {have(1<<40, 1, 1), renew}, {have(math.MaxInt64, id, 2), renew}, {have(-1, id, 2), renew},
		{know(3, id, 0), nothing}, {know(3, id, 1), nothing}, {know(3, id-1, 9), nothing}, {know(3, id+1, 9), nothing}, {know(3, id, -5), nothing},
		{know(4, id, 0), renew}, {know(0, 0, 0), renew},
		{other(have(3, id, 2), func(m *api.Msg) { m.Epoch = 8 }), nothing}, {other(have(4, id, 2), func(m *api.Msg) { m.Epoch = 10 }), nothing},
		{other(have(3, id, 0), func(m *api.Msg) { m.From = 3 }), nothing}, {other(have(4, id, 2), func(m *api.Msg) { m.From = src }), nothing},
		{other(have(3, id, 0), func(m *api.Msg) { m.To = 3 }), nothing}, {other(have(4, id, 2), func(m *api.Msg) { m.To = dst }), nothing},
		{other(have(4, id, 2), func(m *api.Msg) { m.Kind = api.MItems }), nothing}, {other(have(3, id, 2), func(m *api.Msg) { m.Kind = api.MMarks }), nothing}, {other(have(4, id, 2), func(m *api.Msg) { m.Kind = 0 }), nothing}, {other(have(4, id, 2), func(m *api.Msg) { m.Kind = 15 }), nothing},
		{api.Msg{}, nothing},
	} {
		s, _ := made(t)
		fill(t, s, 20)
		s.Kill("x")
		o := move.Send(s, epoch, src, dst, all)
		o.Step(know(3, 0, 0))
		o.Step(have(3, id, 1))
		was := o.Next()
		got := o.Step(c.m)
		switch c.want {
		case nothing:
			is(t, fmt.Sprintf("P22.1, %d: %v", k, c.m), got)
			is(t, fmt.Sprintf("P22.1, %d: Next behind %v", k, c.m), o.Next(), was...)
		case next:
			is(t, fmt.Sprintf("P22.1, %d: %v", k, c.m), got, api.Msg{Kind: api.MItems, From: src, To: dst, Epoch: epoch, Tick: 3, Seq: 1, N: 3, Id: id, Items: entries(s)[8:12]})
		case renew:
			is(t, fmt.Sprintf("P22.1, %d: %v", k, c.m), got, api.Msg{Kind: api.MItems, From: src, To: dst, Epoch: epoch, Tick: c.m.Tick, Seq: 1, N: 1, Id: id + 1, Items: entries(s)[:4]})
			is(t, fmt.Sprintf("P22.1, %d: Next behind %v", k, c.m), o.Next(), got...)
		}
	}
}

// sent is one that has sent all of its stream of 6 entries, the Seq of whose first message is 2.
func sent(t *testing.T) (*move.Out, *store.Store) {
	t.Helper()
	s, _ := made(t)
	fill(t, s, 6)
	s.Kill("x", "y")
	o := move.Send(s, epoch, src, dst, all)
	o.Step(have(0, base+1, 1))
	if got := o.Step(have(0, base+1, 2)); len(got) != 0 || !o.Sent() {
		t.Fatalf("P22.1: %v, Sent %v", got, o.Sent())
	}
	return o, s
}

// marks is the message of the marks of s that are numbered above seq, 4 at the most.
func marks(t *testing.T, s *store.Store, id, seq int64) api.Msg {
	t.Helper()
	l, ok := s.Since(seq, 4)
	if !ok {
		t.Fatal("no marks")
	}
	return api.Msg{Kind: api.MMarks, From: src, To: dst, Epoch: epoch, Id: id, Seq: seq, Marks: l}
}

// P22.1: marks by hand: none till it is frozen and the last message is there; from what dst knows on, 4 at the most; Done, when dst knows the end; nothing then.
func TestMarks(t *testing.T) {
	o, s := sent(t)
	s.Kill("a", "k00", "k01", "b", "c", "k02")
	is(t, "P22.1: Next of what is not frozen", o.Next())
	o.Freeze()
	s.Kill("behind")
	for _, c := range []struct{ seq, from int64 }{{0, 2}, {2, 2}, {-1, 2}, {5, 5}, {4, 5}, {5, 5}, {7, 7}} {
		changed := c.seq == c.from && c.seq > 2 && o.Next()[0].Seq < c.seq
		got := o.Step(know(0, base+1, c.seq))
		if changed {
			is(t, fmt.Sprint("P22.1: MKnow of ", c.seq), got, marks(t, s, base+1, c.from))
		} else {
			is(t, fmt.Sprint("P22.1: MKnow of ", c.seq), got)
		}
		is(t, fmt.Sprint("P22.1: Next behind MKnow of ", c.seq), o.Next(), marks(t, s, base+1, c.from))
		if o.Done() || !o.Sent() {
			t.Fatalf("P22.1: %d is known: Done %v, Sent %v", c.seq, o.Done(), o.Sent())
		}
	}
	is(t, "P22.1: MKnow of the end", o.Step(know(0, base+1, 8)))
	if !o.Done() || !o.Sent() || len(o.Next()) != 0 {
		t.Errorf("P22.1: the end is known: Done %v, Sent %v, %v", o.Done(), o.Sent(), o.Next())
	}
	is(t, "P22.1: MHave of one that is Done", o.Step(have(0, base+1, 2)))
	is(t, "P22.1: MKnow of one that is Done", o.Step(know(0, base+1, 8)))
	o.Freeze()
	if o.Done() {
		t.Error("P22.1: Freeze makes the Seq of now the end; it is not known")
	}
	is(t, "P22.1: Next behind another Freeze", o.Next(), marks(t, s, base+1, 8))
	is(t, "P22.1: MHave of none", o.Step(have(0, base+1, 0)), api.Msg{Kind: api.MItems, From: src, To: dst, Epoch: epoch, Seq: 9, N: 1, Id: base + 2, Last: true, Items: entries(s)})
	if o.Sent() || o.Done() {
		t.Error("P22.1: a new stream is Sent")
	}
}

// P22.1: frozen ahead of the stream's end: items come first; and Done without a mark, where none came since the first message.
func TestFrozen(t *testing.T) {
	for kills := range 3 {
		s, _ := made(t)
		fill(t, s, 6)
		s.Kill("x", "y")
		o := move.Send(s, epoch, src, dst, all)
		for range kills {
			s.Kill("z")
		}
		o.Freeze()
		if l := o.Next(); len(l) != 1 || l[0].Kind != api.MItems || l[0].N != 1 || l[0].Seq != 2 || o.Done() {
			t.Fatalf("P22.1: frozen at first: %v, Done %v", l, o.Done())
		}
		if l := o.Step(have(0, base+1, 1)); len(l) != 1 || l[0].N != 2 || l[0].Seq != int64(2+kills) || !l[0].Last {
			t.Fatalf("P22.1: frozen, the second message: %v", l)
		}
		got := o.Step(have(0, base+1, 2))
		if kills == 0 {
			is(t, "P22.1: nothing was killed", got)
		} else {
			is(t, "P22.1: there are marks", got, marks(t, s, base+1, 2))
		}
		if o.Done() != (kills == 0) || !o.Sent() {
			t.Errorf("P22.1: %d kills: Done %v", kills, o.Done())
		}
	}
	o, s := sent(t)
	s.Kill("a")
	is(t, "P22.1: MKnow ahead of Freeze", o.Step(know(0, base+1, 3)))
	o.Freeze()
	if !o.Done() {
		t.Error("P22.1: what was known ahead of Freeze is not known")
	}
}

// P22.1: what dst may know without being told: also while the stream is on its way.
func TestKnows(t *testing.T) {
	s, _ := made(t)
	fill(t, s, 6)
	o := move.Send(s, epoch, src, dst, all)
	s.Kill("x", "y")
	o.Freeze()
	is(t, "P22.1: MKnow while items are sent", o.Step(know(0, base+1, 1)), o.Next()...)
	o.Step(have(0, base+1, 1))
	is(t, "P22.1: marks from there on", o.Step(have(0, base+1, 2)), marks(t, s, base+1, 1))
	is(t, "P22.1: MKnow beyond the journal", o.Step(know(0, base+1, math.MaxInt64)))
	if !o.Done() {
		t.Error("P22.1: the end is known, but not Done")
	}
}

// P22.1: where the journal has not the marks any more that dst lacks, a new stream begins.
func TestMarksGone(t *testing.T) {
	first := func(s *store.Store, id int64) api.Msg {
		return api.Msg{Kind: api.MItems, From: src, To: dst, Epoch: epoch, Seq: s.Seq(), N: 1, Id: id, Items: entries(s)[:4]}
	}
	o, s := sent(t)
	o.Freeze()
	lose(t, s)
	if !o.Done() || len(o.Next()) != 0 || len(o.Step(know(0, base+1, 2))) != 0 {
		t.Error("P22.1: what is behind the end is asked for")
	}
	o.Freeze()
	is(t, "P22.1: Next without marks", o.Next(), first(s, base+2))
	is(t, "P22.1: Next again", o.Next(), first(s, base+2))
	if o.Sent() || o.Done() {
		t.Error("P22.1: the new stream is Sent")
	}
	lose(t, s)
	o.Step(have(0, base+2, 1))
	is(t, "P22.1: MHave of all, the end was known ahead of the stream", o.Step(have(0, base+2, 2)))
	if !o.Done() {
		t.Error("P22.1: not Done")
	}

	o, s = sent(t)
	s.Kill("a", "b")
	o.Freeze()
	lose(t, s)
	is(t, "P22.1: MKnow of no more than it knew, without marks", o.Step(know(0, base+1, 2)), first(s, base+2))

	o, s = sent(t)
	s.Kill("a", "b")
	o.Freeze()
	lose(t, s)
	is(t, "P22.1: MKnow of the end, without marks", o.Step(know(0, base+1, 4)))
	if !o.Done() {
		t.Error("P22.1: not Done")
	}

	o, s = sent(t)
	s.Kill("a")
	o.Freeze()
	is(t, "P22.1: Base is not above what dst knows", o.Next(), marks(t, s, base+1, 2))

	s, _ = made(t)
	fill(t, s, 9)
	o = move.Send(s, epoch, src, dst, all)
	lose(t, s)
	is(t, "P22.1: MHave, when the marks behind the first message are gone", o.Step(have(0, base+1, 1)), first(s, base+2))
	if l := o.Step(have(0, base+2, 1)); len(l) != 1 || l[0].N != 2 || l[0].Id != base+2 {
		t.Errorf("P22.1: the new stream goes on: %v", l)
	}
}

// P22.1: Ids rise, also from one start of the node to the next one.
func TestIds(t *testing.T) {
	s, d := made(t)
	last := int64(0)
	for boot := int64(1); boot <= 3; boot++ {
		o := move.Send(s, epoch, src, dst, all)
		for n := int64(1); n <= 5; n++ {
			l := o.Next()
			if len(l) != 1 || l[0].Id != boot*base+n || l[0].Id <= last || l[0].Tick != n-1 {
				t.Fatalf("P22.1: the stream %d of the start %d: %v", n, boot, l)
			}
			last = l[0].Id
			o.Step(have(n, 0, 0))
		}
		d = d.Crash()
		s = opened(t, d)
	}
}

// outModel is an Out as the chapter tells it: it keeps all messages of the stream.
type outModel struct {
	s       *store.Store
	parts   []api.Move
	streams int64
	tick    int64
	stream  []api.Msg
	at      [2]string // the last entry that was read: its part's place, its key
	has     int
	know    int64
	frozen  bool
	end     int64
}

func (o *outModel) id() int64 { return base + o.streams }

func (o *outModel) begin(tick int64) {
	o.streams++
	o.tick, o.stream, o.at, o.has = tick, nil, [2]string{}, 0
	o.read()
	o.know = o.stream[0].Seq
}

// order is where an entry stands: at its first part, and there by its key.
func (o *outModel) order(key string) ([2]string, bool) {
	for i, p := range o.parts {
		if h := mix.Of(key); p.From <= h && h <= p.To {
			return [2]string{fmt.Sprintf("part %03d", i), key}, true
		}
	}
	return [2]string{}, false
}

func (o *outModel) read() {
	var l []api.Item
	for _, x := range entries(o.s) {
		if at, ok := o.order(x.Key); ok && slices.Compare(at[:], o.at[:]) > 0 {
			l = append(l, x)
		}
	}
	slices.SortFunc(l, func(x, y api.Item) int {
		a, _ := o.order(x.Key)
		b, _ := o.order(y.Key)
		return slices.Compare(a[:], b[:])
	})
	m := api.Msg{Kind: api.MItems, From: src, To: dst, Epoch: epoch, Tick: o.tick, Seq: o.s.Seq(), N: len(o.stream) + 1, Id: o.id(), Last: len(l) <= 4, Items: l[:min(4, len(l))]}
	if len(m.Items) > 0 {
		o.at, _ = o.order(m.Items[len(m.Items)-1].Key)
	}
	o.stream = append(o.stream, m)
}

func (o *outModel) sent() bool { return o.has == len(o.stream) && o.stream[o.has-1].Last }
func (o *outModel) done() bool { return o.sent() && o.frozen && o.know >= o.end }

func (o *outModel) next() []api.Msg {
	switch {
	case o.done():
		return nil
	case !o.sent():
		return o.stream[o.has:]
	case !o.frozen:
		return nil
	}
	l, ok := o.s.Since(o.know, 4)
	if !ok {
		o.begin(o.tick)
		return o.stream
	}
	return []api.Msg{{Kind: api.MMarks, From: src, To: dst, Epoch: epoch, Tick: o.tick, Id: o.id(), Seq: o.know, Marks: l}}
}

func (o *outModel) step(m api.Msg) []api.Msg {
	if m.Kind != api.MHave && m.Kind != api.MKnow || m.Epoch != epoch || m.From != dst || m.To != src {
		return nil
	}
	changed := true
	switch {
	case m.Tick != o.tick:
		o.begin(m.Tick)
	case m.Kind == api.MHave && m.Id == o.id() && m.N == len(o.stream) && o.has < m.N:
		if o.has++; !o.sent() {
			o.read()
		}
	case m.Kind == api.MHave && m.Id == o.id() && m.N == 0:
		o.begin(o.tick)
	case m.Kind == api.MKnow && m.Id == o.id() && m.Seq > o.know:
		o.know = m.Seq
	default:
		changed = false
	}
	if o.know < o.s.Base() && (!o.frozen || o.know < o.end) {
		o.begin(o.tick)
		changed = true
	}
	if !changed {
		return nil
	}
	return o.next()
}

// P22.1: long runs drawn at random, held to the model: entries come and go, dst says this and that.
func TestOutDrawn(t *testing.T) {
	r := rand.New(rand.NewPCG(22, 1))
	lists := [][]api.Move{{all}, {lower, upper}, {upper, lower}, {middle}, {middle, all}, {lower, no, middle, all}, nil}
	done := 0
	for run := range 120 {
		s, _ := made(t)
		fill(t, s, r.IntN(25))
		parts := lists[run%len(lists)]
		o, model := move.Send(s, epoch, src, dst, parts...), &outModel{s: s, parts: parts}
		model.begin(0)
		for range 120 {
			key := fmt.Sprintf("k%02d", r.IntN(30))
			m := have(model.tick, model.id(), len(model.stream))
			switch n := r.IntN(60); {
			case n < 8:
				s.Put(api.Item{Key: key, Val: fmt.Sprint(n)})
				continue
			case n < 12:
				s.Kill(key, "x")
				continue
			case n < 13:
				s.Drop(key)
				continue
			case n < 14 && run%4 == 0:
				lose(t, s)
				continue
			case n < 15:
				o.Freeze()
				model.frozen, model.end = true, s.Seq()
			case n < 22:
				is(t, "P22.1: Next", o.Next(), model.next()...)
				continue
			case n < 30:
				m = know(model.tick, model.id(), model.know+r.Int64N(6)-1)
			case n < 34:
				m.N += r.IntN(5) - 2
			case n < 35:
				m.N = 0
			case n < 37:
				m.Id += r.Int64N(3) - 1
			case n < 38:
				m.Tick = r.Int64N(4)
			case n < 39:
				m.Kind = 1 + r.IntN(14)
			case n < 40:
				m.From, m.To, m.Epoch = r.IntN(3), r.IntN(3), 8+r.Int64N(3)
			}
			is(t, fmt.Sprintf("P22.1: Step(%v)", m), o.Step(m), model.step(m)...)
			if o.Sent() != model.sent() || o.Done() != model.done() {
				t.Fatalf("P22.1: Sent %v, Done %v, want %v, %v", o.Sent(), o.Done(), model.sent(), model.done())
			}
			if o.Done() {
				done++
			}
		}
	}
	if done == 0 {
		t.Error("no run was ever Done")
	}
}
