package move_test

import (
	"fmt"
	"math/rand/v2"
	"slices"
	"testing"

	"icehouse/api"
	"icehouse/dev"
	"icehouse/mix"
	"icehouse/move"
	"icehouse/msg"
	"icehouse/store"
)

// version is an entry that src had from a time till ahead of another one.
type version struct {
	item     api.Item
	from, to int
}

const still = 1 << 40

// stream is what was seen of a stream: when its first message was read and when its last one, and the first one's Seq.
type stream struct {
	begun, ended int
	seq          int64
}

// walk is a move on the way, with all that src ever had.
type walk struct {
	t       *testing.T
	r       *rand.Rand
	a, b    *store.Store
	da, db  *dev.Dev
	parts   []api.Move
	o       *move.Out
	x       *move.In
	way     []api.Msg
	now     int
	had     []version
	streams map[int64]*stream
	last    int64 // the greatest Id of all
	frozen  bool
	end     int64
	own     []api.Item // that dst has, and no part covers
	doneAt  int
}

func newWalk(t *testing.T, r *rand.Rand, parts ...api.Move) *walk {
	w := &walk{t: t, r: r, parts: parts, streams: map[int64]*stream{}}
	w.a, w.da = made(t)
	w.b, w.db = made(t)
	for i := range 30 {
		x := api.Item{Key: fmt.Sprintf("k%02d", i), Val: "dst's"}
		w.b.Put(x)
		if !w.covers(x.Key) {
			w.own = append(w.own, x)
		}
	}
	w.b.Flush()
	w.o, w.x = move.Send(w.a, epoch, src, dst, parts...), move.Take(w.b, epoch, src, dst, parts...)
	w.sync()
	w.say(w.o.Next())
	return w
}

func (w *walk) covers(key string) bool {
	h := mix.Of(key)
	return slices.ContainsFunc(w.parts, func(p api.Move) bool { return p.From <= h && h <= p.To })
}

// sync notes what src has now.
func (w *walk) sync() {
	w.now++
	items := entries(w.a)
	for i := range w.had {
		v := &w.had[i]
		if k := slices.Index(items, v.item); v.to == still && k < 0 {
			v.to = w.now
		} else if v.to == still {
			items = slices.Delete(items, k, k+1)
		}
	}
	for _, x := range items {
		w.had = append(w.had, version{x, w.now, still})
	}
}

// say sends what src said, and notes the streams in it.
func (w *walk) say(l []api.Msg) {
	for _, m := range l {
		if !msg.May(m) {
			w.t.Fatalf("P22.1: it may not be: %v", m)
		}
		w.way = append(w.way, m)
		if m.Kind != api.MItems {
			continue
		}
		if m.N == 1 && w.streams[m.Id] == nil {
			if m.Id <= w.last {
				w.t.Fatalf("P22.1: Id %d behind %d", m.Id, w.last)
			}
			w.last, w.streams[m.Id] = m.Id, &stream{begun: w.now, seq: m.Seq}
		}
		if s := w.streams[m.Id]; m.Last && s.ended == 0 {
			s.ended = w.now
		}
	}
}

// arrive lets the i-th message come.
func (w *walk) arrive(i int) {
	m := w.way[i]
	if w.r.IntN(5) > 0 {
		w.way = slices.Delete(w.way, i, i+1)
	}
	if m.To == src {
		w.say(w.o.Step(m))
		w.check()
		return
	}
	for _, m := range w.x.Step(m) {
		if !msg.May(m) {
			w.t.Fatalf("P22.2: it may not be: %v", m)
		}
		w.way = append(w.way, m)
	}
}

// check holds dst to what Done promises.
func (w *walk) check() {
	if !w.o.Done() {
		return
	}
	w.doneAt = w.now
	s, t := w.streams[w.last], w.t
	marks, ok := w.a.Since(s.seq, 1<<30)
	marked := func(key string, end int64) bool {
		return slices.ContainsFunc(marks, func(m api.Mark) bool { return m.Key == key && m.Seq <= end })
	}
	var own []api.Item
	there := entries(w.b)
	for _, x := range there {
		if !w.covers(x.Key) {
			own = append(own, x)
			continue
		}
		if !slices.ContainsFunc(w.had, func(v version) bool { return v.item == x && v.from <= s.ended && v.to > s.begun }) {
			t.Fatalf("P22.2: Done: src had not %v while the stream was sent", x)
		}
		if ok && marked(x.Key, w.end) {
			t.Fatalf("P22.2: Done: %v is there, which was killed", x)
		}
	}
	for _, v := range w.had {
		if ok && w.covers(v.item.Key) && v.from <= s.begun && v.to > s.ended && !marked(v.item.Key, 1<<40) && !slices.Contains(there, v.item) {
			t.Fatalf("P22.2: Done: %v is not there, which src had all the time", v.item)
		}
	}
	if !slices.Equal(own, w.own) {
		t.Fatalf("P22.2: what no part covers: %v, want %v", own, w.own)
	}
}

func (w *walk) freeze() {
	w.o.Freeze()
	w.frozen, w.end = true, w.a.Seq()
	w.check()
}

// loose chooses among the sectors that a crash may lose.
func (w *walk) loose(d *dev.Dev) []bool {
	keep := make([]bool, len(d.Loose()))
	for i := range keep {
		keep[i] = w.r.IntN(2) == 0
	}
	return keep
}

func (w *walk) fallSrc() {
	w.da = w.da.Crash(w.loose(w.da)...)
	w.a = opened(w.t, w.da)
	w.o = move.Send(w.a, epoch, src, dst, w.parts...)
	w.sync()
	w.say(w.o.Next())
	if w.frozen {
		w.freeze()
	}
}

func (w *walk) fallDst() {
	w.db = w.db.Crash(w.loose(w.db)...)
	w.b = opened(w.t, w.db)
	w.x = move.Take(w.b, epoch, src, dst, w.parts...)
}

// change is one of src's entries.
func (w *walk) change() {
	key := fmt.Sprintf("k%02d", w.r.IntN(30))
	// Whoever is frozen neither fills nor kills what goes.
	if w.frozen && w.covers(key) {
		return
	}
	switch n := w.r.IntN(20); {
	case n < 10:
		w.a.Put(api.Item{Key: key, Val: fmt.Sprint(w.now)})
	case n < 17:
		w.a.Kill(key)
	case n < 18:
		w.a.Drop(key)
	case n < 19:
		w.a.Flush()
	case w.r.IntN(10) == 0:
		lose(w.t, w.a)
	}
	w.sync()
}

func (w *walk) some() {
	w.now++
	switch n := w.r.IntN(60); {
	case n < 30 && len(w.way) > 0:
		w.arrive(w.r.IntN(min(len(w.way), 4)))
	case n < 34 && len(w.way) > 0:
		w.way = slices.Delete(w.way, 0, 1)
	case n < 44:
		w.say(w.o.Next())
	case n < 57:
		w.change()
	case n == 57 && w.r.IntN(4) == 0:
		w.freeze()
	case n == 58 && w.r.IntN(4) == 0:
		w.fallSrc()
	case n == 59 && w.r.IntN(4) == 0:
		w.fallDst()
	}
}

// P22.1, P22.2: moves over a way that loses, repeats and mixes up, while entries come and go and both nodes fall: behind Done dst has what it must have, and nothing else; and if nobody falls any more, Done comes.
func TestWalks(t *testing.T) {
	t.Parallel()
	done := 0
	for seed := range uint64(150) {
		r := rand.New(rand.NewPCG(22, 100+seed))
		w := newWalk(t, r, [][]api.Move{{all}, {lower}, {upper, middle}, {no, middle}}[seed%4]...)
		for range 300 {
			w.some()
		}
		if w.doneAt > 0 {
			done++
		}
		w.freeze()
		for n := 0; !w.o.Done(); n++ {
			if n == 200 {
				t.Fatalf("P22.1: never Done: %v", w.o.Next())
			}
			w.now++
			w.say(w.o.Next())
			for range 100 {
				if len(w.way) > 0 {
					w.arrive(0)
				}
			}
		}
		if len(w.o.Next()) != 0 || !w.o.Sent() {
			t.Fatalf("P22.2: Done, and %v", w.o.Next())
		}
	}
	if done < 10 {
		t.Errorf("only %d were Done on the way", done)
	}
}
