package move_test

import (
	"fmt"
	"maps"
	"math"
	"math/rand/v2"
	"slices"
	"strings"
	"testing"

	"icehouse/api"
	"icehouse/dev"
	"icehouse/mix"
	"icehouse/move"
	"icehouse/store"
)

// items is a message of the stream id to the boot 1 of dst, with entries of these keys.
func items(id int64, n int, last bool, keys ...string) api.Msg {
	m := api.Msg{Kind: api.MItems, From: src, To: dst, Epoch: epoch, Tick: 1, Id: id, N: n, Last: last}
	for _, key := range keys {
		m.Items = append(m.Items, api.Item{Key: key, Val: "v"})
	}
	return m
}

// killed is a message of marks of these keys, with the numbers behind seq.
func killed(id, seq int64, keys ...string) api.Msg {
	m := api.Msg{Kind: api.MMarks, From: src, To: dst, Epoch: epoch, Tick: 1, Id: id, Seq: seq}
	for i, key := range keys {
		m.Marks = append(m.Marks, api.Mark{Seq: seq + int64(i) + 1, Key: key})
	}
	return m
}

// lasts says that the store has these keys, and has them behind a crash, too.
func lasts(t *testing.T, what string, s *store.Store, d *dev.Dev, keys ...string) {
	t.Helper()
	if got := s.Keys(); !slices.Equal(got, keys) {
		t.Fatalf("%s: %q, want %q", what, got, keys)
	}
	if got := opened(t, d.Crash()).Keys(); !slices.Equal(got, keys) {
		t.Fatalf("%s, behind a crash: %q, want %q", what, got, keys)
	}
}

// halves are two keys that the part lower has, and two that it has not.
func halves() (in, out []string) {
	for i := 0; len(in) < 2 || len(out) < 2; i++ {
		key := fmt.Sprint("h", i)
		if mix.Of(key) < 1<<63 {
			in = append(in, key)
		} else {
			out = append(out, key)
		}
	}
	return in[:2], out[:2]
}

// P22.2: a stream by hand: with its first message go the entries that the parts cover, and those alone; each message's are put, and last.
func TestTake(t *testing.T) {
	in, out := halves()
	s, d := made(t)
	for _, key := range []string{in[0], out[0]} {
		s.Put(api.Item{Key: key, Val: "old"})
	}
	x := move.Take(s, epoch, src, dst, lower)
	is(t, "P22.2: the first message", x.Step(items(7, 1, false)), have(1, 7, 1))
	lasts(t, "P22.2: the first message", s, d, out[0])
	s.Put(api.Item{Key: in[1], Val: "old"})
	is(t, "P22.2: the second one", x.Step(items(7, 2, false, in[0], out[1], out[0])), have(1, 7, 2))
	want := slices.Sorted(slices.Values([]string{in[0], in[1], out[0]}))
	lasts(t, "P22.2: the second one", s, d, want...)
	if y, _ := s.Get(out[0], 0); y.Val != "old" {
		t.Errorf("P22.2: what no part covers was put: %v", y)
	}
	is(t, "P22.2: the last one", x.Step(items(7, 3, true, in[1])), have(1, 7, 3))
	lasts(t, "P22.2: the last one", s, d, want...)
	if y, _ := s.Get(in[1], 0); y.Val != "v" {
		t.Errorf("P22.2: a key that was there was not put: %v", y)
	}
	s.Drop(in...)
	for n := 1; n <= 3; n++ {
		is(t, "P22.2: what came", x.Step(items(7, n, n == 3, in...)), have(1, 7, 3))
	}
	lasts(t, "P22.2: what came", s, d, out[0])
	is(t, "P22.2: a new stream", x.Step(items(8, 1, true, in[0])), have(1, 8, 1))
	lasts(t, "P22.2: a new stream", s, d, slices.Sorted(slices.Values([]string{in[0], out[0]}))...)
	is(t, "P22.2: an elder stream", x.Step(items(7, 1, true, in[1])))
	is(t, "P22.2: an elder stream", x.Step(items(7, 4, true, in[1])))
	lasts(t, "P22.2: an elder stream", s, d, slices.Sorted(slices.Values([]string{in[0], out[0]}))...)
}

// P22.2: entries that are Gone, or may not be, are not put; the others of the message are, as they are.
func TestPuts(t *testing.T) {
	s, d := made(t)
	x := move.Take(s, epoch, src, dst, lower, upper)
	m := items(1, 1, true)
	m.Items = []api.Item{{Key: "a", Val: "1", End: 5}, {Key: "b", Gone: true}, {Key: "", Val: "x"}, {Key: strings.Repeat("k", 41)}, {Key: "c", Val: strings.Repeat("v", 201)}, {Key: "d", End: -1}, {Key: "e", Gone: true, Val: "x"}, {Key: "f", Val: "2"}, {Key: "a", Val: "3"}, {Key: "g", End: 1 << 40}}
	is(t, "P22.2: entries that may not be", x.Step(m), have(1, 1, 1))
	lasts(t, "P22.2: entries that may not be", s, d, "a", "f", "g")
	if got := fmt.Sprint(entries(s)); got != "[{a 3 0 false} {f 2 0 false} {g  1099511627776 false}]" {
		t.Errorf("P22.2: %s", got)
	}
	m = items(1, 2, true)
	m.Items = []api.Item{{Key: "a", Gone: true}}
	is(t, "P22.2: one that is Gone", x.Step(m), have(1, 1, 2))
	lasts(t, "P22.2: one that is Gone", s, d, "a", "f", "g")
}

// P22.2: what is said, and what comes of it, ahead of any stream and in one.
func TestListens(t *testing.T) {
	other := func(m api.Msg, change func(m *api.Msg)) api.Msg {
		change(&m)
		return m
	}
	for k, c := range []struct {
		m            api.Msg
		fresh, under []api.Msg // under: two messages of the stream 5 came, not the last one
	}{
		{items(5, 3, false, "n"), []api.Msg{have(1, 5, 0)}, []api.Msg{have(1, 5, 3)}},
		{items(5, 1, false, "n"), []api.Msg{have(1, 5, 1)}, []api.Msg{have(1, 5, 2)}},
		{items(5, 2, false, "n"), []api.Msg{have(1, 5, 0)}, []api.Msg{have(1, 5, 2)}},
		{items(5, 4, false, "n"), []api.Msg{have(1, 5, 0)}, nil},
		{items(5, math.MaxInt, false, "n"), []api.Msg{have(1, 5, 0)}, nil},
		{items(5, 0, false, "n"), []api.Msg{have(1, 5, 0)}, nil},
		{items(5, -1, true, "n"), []api.Msg{have(1, 5, 0)}, nil},
		{items(5, math.MinInt, true, "n"), []api.Msg{have(1, 5, 0)}, nil},
		{items(4, 1, false, "n"), []api.Msg{have(1, 4, 1)}, nil},
		{items(4, 3, false, "n"), []api.Msg{have(1, 4, 0)}, nil},
		{items(6, 1, false, "n"), []api.Msg{have(1, 6, 1)}, []api.Msg{have(1, 6, 1)}},
		{items(6, 3, false, "n"), []api.Msg{have(1, 6, 0)}, []api.Msg{have(1, 6, 0)}},
		{items(6, 0, false, "n"), []api.Msg{have(1, 6, 0)}, []api.Msg{have(1, 6, 0)}},
		{items(math.MaxInt64, 1, true, "n"), []api.Msg{have(1, math.MaxInt64, 1)}, []api.Msg{have(1, math.MaxInt64, 1)}},
		{items(0, 1, true, "n"), nil, nil},
		{items(0, 0, true, "n"), nil, nil},
		{items(-1, 1, true, "n"), nil, nil},
		{items(math.MinInt64, 1, true, "n"), nil, nil},
		{killed(5, 0, "k"), []api.Msg{have(1, 5, 0)}, nil},
		{killed(4, 0, "k"), []api.Msg{have(1, 4, 0)}, nil},
		{killed(6, 0, "k"), []api.Msg{have(1, 6, 0)}, []api.Msg{have(1, 6, 0)}},
		{killed(0, 0, "k"), nil, nil},
		{killed(-1, 0, "k"), nil, nil},
		{other(items(5, 3, true, "n"), func(m *api.Msg) { m.Tick = 0 }), []api.Msg{have(1, 5, 0)}, []api.Msg{have(1, 5, 0)}},
		{other(items(6, 1, true, "n"), func(m *api.Msg) { m.Tick = 2 }), []api.Msg{have(1, 6, 0)}, []api.Msg{have(1, 6, 0)}},
		{other(items(-3, 1, true, "n"), func(m *api.Msg) { m.Tick = math.MinInt64 }), []api.Msg{have(1, -3, 0)}, []api.Msg{have(1, -3, 0)}},
		{other(killed(4, 0, "k"), func(m *api.Msg) { m.Tick = 2 }), []api.Msg{have(1, 4, 0)}, []api.Msg{have(1, 4, 0)}},
		{other(items(6, 1, true, "n"), func(m *api.Msg) { m.Epoch = 8 }), nil, nil},
		{other(items(6, 1, true, "n"), func(m *api.Msg) { m.Epoch, m.Tick = 10, 0 }), nil, nil},
		{other(items(6, 1, true, "n"), func(m *api.Msg) { m.From = 3 }), nil, nil},
		{other(items(6, 1, true, "n"), func(m *api.Msg) { m.To, m.Tick = 3, 0 }), nil, nil},
		{other(items(6, 1, true, "n"), func(m *api.Msg) { m.From, m.To = dst, src }), nil, nil},
		{other(items(6, 1, true, "n"), func(m *api.Msg) { m.Kind = api.MHave }), nil, nil},
		{other(items(6, 1, true, "n"), func(m *api.Msg) { m.Kind, m.Tick = api.MKnow, 0 }), nil, nil},
		{other(killed(6, 0, "k"), func(m *api.Msg) { m.From = 3 }), nil, nil},
		{other(killed(6, 0, "k"), func(m *api.Msg) { m.Epoch = 8 }), nil, nil},
		{api.Msg{}, nil, nil},
	} {
		s, d := made(t)
		s.Put(api.Item{Key: "k"})
		s.Flush()
		x := move.Take(s, epoch, src, dst, all)
		is(t, fmt.Sprintf("P22.2, %d: at first: %v", k, c.m), x.Step(c.m), c.fresh...)
		if len(c.fresh) > 0 && c.fresh[0].N > 0 {
			lasts(t, fmt.Sprintf("P22.2, %d: at first: %v", k, c.m), s, d, "n")
		} else {
			lasts(t, fmt.Sprintf("P22.2, %d: at first: %v", k, c.m), s, d, "k")
		}
		s, d = made(t)
		x = move.Take(s, epoch, src, dst, all)
		x.Step(items(5, 1, false, "j"))
		x.Step(items(5, 2, false, "k"))
		is(t, fmt.Sprintf("P22.2, %d: in a stream: %v", k, c.m), x.Step(c.m), c.under...)
		want := []string{"j", "k"}
		if len(c.under) > 0 && c.under[0].N == 3 {
			want = []string{"j", "k", "n"}
		} else if len(c.under) > 0 && c.under[0].N == 1 {
			want = []string{"n"}
		}
		lasts(t, fmt.Sprintf("P22.2, %d: in a stream: %v", k, c.m), s, d, want...)
		if len(c.under) == 0 || c.under[0].N == 0 {
			is(t, fmt.Sprintf("P22.2, %d: behind %v", k, c.m), x.Step(items(5, 3, true)), have(1, 5, 3))
		}
	}
}

// P22.2: marks by hand: behind the last message alone; what it knows is the first message's Seq, then the last mark's number; their keys go, and stay away.
func TestKills(t *testing.T) {
	in, out := halves()
	s, d := made(t)
	x := move.Take(s, epoch, src, dst, lower)
	first := items(3, 1, false, in...)
	first.Seq = 10
	x.Step(first)
	s.Put(api.Item{Key: out[0]})
	is(t, "P22.2: marks ahead of the last message", x.Step(killed(3, 10, in[0])))
	second := items(3, 2, true)
	second.Seq = 20
	is(t, "P22.2: the last message", x.Step(second), have(1, 3, 2))
	both := slices.Sorted(slices.Values(append(slices.Clone(in), out[0])))
	one := slices.Sorted(slices.Values([]string{in[1], out[0]}))
	for k, c := range []struct {
		m    api.Msg
		want []api.Msg
		keys []string
	}{
		{killed(3, 11, in[0]), nil, both},
		{killed(3, math.MaxInt64), nil, both},
		{killed(2, 10, in[0]), nil, both},
		{killed(3, 10), []api.Msg{know(1, 3, 10)}, both},
		{killed(3, 0), []api.Msg{know(1, 3, 10)}, both},
		{killed(3, 6, in[0], in[1], in[0], in[1]), []api.Msg{know(1, 3, 10)}, both},
		{killed(3, 10, "other", out[0], out[1], ""), []api.Msg{know(1, 3, 14)}, both},
		{killed(3, 10, in[0]), []api.Msg{know(1, 3, 14)}, both},
		{killed(3, 12, in[0], in[1], in[0]), []api.Msg{know(1, 3, 15)}, one},
		{killed(3, 12, in[1], in[1], in[1]), []api.Msg{know(1, 3, 15)}, one},
		{killed(3, 16, in[1]), nil, one},
		{killed(3, 14, in[0], strings.Repeat("k", 41), "", strings.Repeat("k", 1<<16), "q", "r"), []api.Msg{know(1, 3, 20)}, one},
		{killed(3, 20, in[1], in[1]), []api.Msg{know(1, 3, 22)}, out[:1]},
	} {
		is(t, fmt.Sprintf("P22.2, %d: %v", k, c.m), x.Step(c.m), c.want...)
		lasts(t, fmt.Sprintf("P22.2, %d: %v", k, c.m), s, d, c.keys...)
	}
	is(t, "P22.2: what came, behind marks", x.Step(items(3, 1, false, in...)), have(1, 3, 2))
	lasts(t, "P22.2: what came, behind marks", s, d, out[0])
	is(t, "P22.2: a new stream", x.Step(items(4, 1, true, in...)), have(1, 4, 1))
	is(t, "P22.2: a new stream's marks", x.Step(killed(4, 0, in[0])), know(1, 4, 1))
	lasts(t, "P22.2: a new stream's marks", s, d, one...)
	is(t, "P22.2: a new stream that is not whole", x.Step(items(5, 1, false)), have(1, 5, 1))
	is(t, "P22.2: marks of a stream that is not whole", x.Step(killed(5, 0, in[0])))
}

// P22.2: behind a mark that it was not told it knows nothing.
func TestGap(t *testing.T) {
	s, d := made(t)
	x := move.Take(s, epoch, src, dst, all)
	x.Step(items(3, 1, true, "a", "b", "c", "d"))
	m := killed(3, 0, "a", "b", "c")
	m.Marks[2].Seq = 4
	is(t, "P22.2: marks with a gap", x.Step(m), know(1, 3, 2))
	lasts(t, "P22.2: marks with a gap", s, d, "c", "d")
	m = killed(3, 0, "d")
	m.Marks[0].Seq = 4
	is(t, "P22.2: marks behind a gap", x.Step(m), know(1, 3, 2))
	lasts(t, "P22.2: marks behind a gap", s, d, "c", "d")
	for _, seq := range []int64{math.MaxInt64, math.MinInt64, math.MaxInt64 - 1, -1} {
		first := items(3, 1, true, "a")
		first.Seq = seq
		x := move.Take(s, epoch, src, dst, all)
		x.Step(first)
		m := killed(3, seq)
		m.Marks = []api.Mark{{Seq: math.MinInt64, Key: "a"}, {Seq: math.MaxInt64, Key: "a"}}
		want := seq
		if seq == math.MaxInt64-1 {
			want = math.MaxInt64
		}
		is(t, fmt.Sprint("P22.2: marks from ", seq), x.Step(m), know(1, 3, want))
		if got := len(s.Keys()) == 0; got != (want > seq) {
			t.Errorf("P22.2: marks from %d: %q", seq, s.Keys())
		}
	}
}

// P22.2: another start of the node has another Boot, and knows of no stream.
func TestBoots(t *testing.T) {
	s, d := made(t)
	x := move.Take(s, epoch, src, dst, all)
	x.Step(items(5, 1, true, "a"))
	d = d.Crash()
	s = opened(t, d)
	x = move.Take(s, epoch, src, dst, all)
	is(t, "P22.2: items to the boot ahead", x.Step(items(5, 2, true, "b")), have(2, 5, 0))
	is(t, "P22.2: marks to the boot ahead", x.Step(killed(5, 0, "a")), have(2, 5, 0))
	lasts(t, "P22.2: the boot ahead", s, d, "a")
	m := items(5, 1, true, "b")
	m.Tick = 2
	is(t, "P22.2: items to this boot", x.Step(m), have(2, 5, 1))
	lasts(t, "P22.2: this boot", s, d, "b")
}

// P22.2: all entries go, be there as many as a device has.
func TestTakeFull(t *testing.T) {
	d := dev.New(2048)
	s, _ := store.Make(d)
	for i := range 6000 {
		s.Put(api.Item{Key: fmt.Sprint("key ", i)})
	}
	left := slices.DeleteFunc(s.Keys(), func(key string) bool { return mix.Of(key) < 1<<63 })
	if len(left) < 1000 {
		t.Fatalf("%d keys", len(left))
	}
	x := move.Take(s, epoch, src, dst, lower)
	is(t, "P22.2: of a full cache", x.Step(items(1, 1, true)), have(1, 1, 1))
	for _, key := range opened(t, d.Crash()).Keys() {
		if mix.Of(key) < 1<<63 || !slices.Contains(left, key) {
			t.Fatalf("P22.2: %q is there", key)
		}
	}
}

// inModel is an In as the chapter tells it, of the parts that cover the keys below "n".
type inModel struct {
	id    int64
	came  int
	last  bool
	know  int64
	cache map[string]api.Item
}

func (x *inModel) put(m api.Msg, covers func(key string) bool) {
	for _, it := range m.Items {
		if covers(it.Key) && !it.Gone && len(it.Key) > 0 && len(it.Key) <= 40 && len(it.Val) <= 200 {
			x.cache[it.Key] = it
		}
	}
	x.last = x.last || m.Last
}

func (x *inModel) step(m api.Msg, covers func(key string) bool) []api.Msg {
	known := func(n int) []api.Msg { return []api.Msg{have(1, m.Id, n)} }
	switch {
	case m.Epoch != epoch || m.From != src || m.To != dst || m.Kind != api.MItems && m.Kind != api.MMarks:
		return nil
	case m.Tick != 1:
		return known(0)
	case m.Kind == api.MItems && m.N == 1 && m.Id > x.id:
		maps.DeleteFunc(x.cache, func(key string, _ api.Item) bool { return covers(key) })
		x.id, x.came, x.last, x.know = m.Id, 1, false, m.Seq
		x.put(m, covers)
		return known(1)
	case m.Id > x.id:
		return known(0)
	case m.Id < x.id || x.id == 0:
		return nil
	case m.Kind == api.MMarks:
		if !x.last || m.Seq > x.know {
			return nil
		}
		for _, k := range m.Marks {
			if k.Seq == x.know+1 {
				x.know++
				if covers(k.Key) {
					delete(x.cache, k.Key)
				}
			}
		}
		return []api.Msg{know(1, x.id, x.know)}
	case m.N == x.came+1:
		x.came++
		x.put(m, covers)
		return known(x.came)
	case m.N >= 1 && m.N <= x.came:
		return known(x.came)
	}
	return nil
}

// drawItems are a few entries, of which some may not be.
func drawItems(r *rand.Rand) []api.Item {
	var out []api.Item
	for range r.IntN(6) {
		x := api.Item{Key: fmt.Sprint("k", r.IntN(12)), Val: fmt.Sprint("v", r.IntN(100))}
		switch r.IntN(12) {
		case 0:
			x = api.Item{Key: x.Key, Gone: true}
		case 1:
			x.Key = strings.Repeat("k", 41*r.IntN(2))
		case 2:
			x.Val = strings.Repeat("v", 201)
		}
		out = append(out, x)
	}
	return out
}

// P22.2: long runs drawn at random, held to the model, at each step and behind crashes.
func TestInDrawn(t *testing.T) {
	r := rand.New(rand.NewPCG(22, 2))
	for range 60 {
		s, d := made(t)
		parts := [][]api.Move{{all}, {lower}, {upper, no, middle}, nil}[r.IntN(4)]
		covers := func(key string) bool {
			h := mix.Of(key)
			return slices.ContainsFunc(parts, func(p api.Move) bool { return p.From <= h && h <= p.To })
		}
		x, model := move.Take(s, epoch, src, dst, parts...), &inModel{cache: map[string]api.Item{}}
		for range 150 {
			m := items(model.id, model.came+1, r.IntN(4) == 0)
			m.Seq, m.Items = r.Int64N(4), drawItems(r)
			switch n := r.IntN(40); {
			case n < 3:
				it := api.Item{Key: fmt.Sprint("k", n*4), Val: "own"}
				s.Put(it)
				model.cache[it.Key] = it
				s.Flush()
				continue
			case n < 8:
				m.Id, m.N = model.id+r.Int64N(4)-1, 1
			case n < 14:
				m.N += r.IntN(6) - 4
			case n < 15:
				m.Id += r.Int64N(5) - 2
			case n < 30:
				m.Kind, m.Seq = api.MMarks, model.know-r.Int64N(4)+1
				seq := m.Seq
				for range r.IntN(6) {
					seq += 1 + r.Int64N(8)/7
					m.Marks = append(m.Marks, api.Mark{Seq: seq, Key: fmt.Sprint("k", r.IntN(12))})
				}
				m.Id += r.Int64N(12) / 11
			case n < 31:
				m.Tick = r.Int64N(3)
			case n < 32:
				m.Kind = 1 + r.IntN(14)
			case n < 33:
				m.From, m.To, m.Epoch = r.IntN(3), r.IntN(3), 8+r.Int64N(3)
			}
			is(t, fmt.Sprintf("P22.2: Step(%v)", m), x.Step(m), model.step(m, covers)...)
			lasts(t, fmt.Sprintf("P22.2: behind %v", m), s, d, slices.Sorted(maps.Keys(model.cache))...)
			for _, it := range entries(s) {
				if it != model.cache[it.Key] {
					t.Fatalf("P22.2: behind %v: %v, want %v", m, it, model.cache[it.Key])
				}
			}
		}
	}
}
