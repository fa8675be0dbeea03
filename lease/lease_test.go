package lease_test

import (
	"math"
	"math/rand/v2"
	"testing"

	"icehouse/clock"
	"icehouse/lease"
)

const (
	edge = 1 << 40 // where a clock goes on no more
	term = 20      // ticks from when it was asked
)

// Ways, embedding: the clock's methods are promoted to a Lease as a value too, not only to a pointer to one.
var (
	_ counts = lease.Lease{}
	_ counts = &lease.Lease{}
)

type counts interface {
	Now() int64
	Tick(ns ...int64) int64
	Since(t int64) int64
}

// The reference below is written from the chapter: it keeps all that was granted.

type grant struct{ sent, epoch int64 }

// ref is a lease on a clock that stands at now.
type ref struct {
	now int64
	had []grant // since New or Drop; the last one is what it has
}

func (r *ref) has() (grant, bool) {
	if len(r.had) == 0 {
		return grant{}, false
	}
	return r.had[len(r.had)-1], true
}

func (r *ref) left() int64 {
	g, ok := r.has()
	if !ok || g.sent <= r.now-term {
		return 0
	}
	return g.sent + term - r.now
}

func (r *ref) good(epoch int64) bool {
	g, ok := r.has()
	return ok && epoch > 0 && g.epoch == epoch && g.sent > r.now-term
}

func (r *ref) take(sent, epoch int64) bool {
	if epoch < 1 || sent < 0 || sent > r.now || sent <= r.now-term {
		return false
	}
	if g, ok := r.has(); ok && g.epoch == epoch && g.sent >= sent {
		return false
	}
	for _, g := range r.had {
		if g.epoch > epoch {
			return false
		}
	}
	r.had = append(r.had, grant{sent, epoch})
	return true
}

// odd are numbers about all limits, and about those that narrower integers would have.
func odd() []int64 {
	return []int64{
		0, 1, 2, 3, 19, 20, 21, 255, 256, 1<<31 - 1, 1 << 31, 1<<32 - 1, 1 << 32, 1<<32 + 1,
		edge - 21, edge - 20, edge - 19, edge - 1, edge, edge + 1, edge + 20, 1 << 62,
		math.MaxInt64 - 20, math.MaxInt64 - 19, math.MaxInt64 - 1, math.MaxInt64,
		-1, -2, -19, -20, -21, -1 << 32, -edge, math.MinInt64 + 20, math.MinInt64 + 19, math.MinInt64 + 1, math.MinInt64,
	}
}

// stand is a lease that has nothing, on a clock that stands at now.
func stand(t *testing.T, now int64) (*lease.Lease, *clock.Clock) {
	t.Helper()
	c := &clock.Clock{}
	if got := c.Tick(now); got != now {
		t.Fatalf("the clock stands at %d, want %d", got, now)
	}
	return lease.New(c), c
}

// check holds all that a lease tells against what is wanted: of a lease that has nothing, epoch is 0.
func check(t *testing.T, l *lease.Lease, now, epoch, left int64) {
	t.Helper()
	if l.Ask() != now || l.Now() != now {
		t.Errorf("P17.1: Ask %d, Now %d, want %d", l.Ask(), l.Now(), now)
	}
	if got := l.Left(); got != left {
		t.Errorf("P17.1: at %d Left: %d, want %d", now, got, left)
	}
	for _, e := range append(odd(), epoch-1, epoch, epoch+1) {
		want := e == epoch && e > 0 && left > 0
		if got := l.Good(e); got != want {
			t.Errorf("P17.1: at %d Good(%d): %v, want %v", now, e, got, want)
		}
	}
	if l.Left() != left || l.Ask() != now {
		t.Errorf("P0.5: asking changed the lease: Left %d, Ask %d, want %d, %d", l.Left(), l.Ask(), left, now)
	}
}

// take holds a Take against what it should answer.
func take(t *testing.T, l *lease.Lease, sent, epoch int64, want bool) {
	t.Helper()
	if got := l.Take(sent, epoch); got != want {
		t.Errorf("P17.1: at %d Take(%d, %d): %v, want %v", l.Now(), sent, epoch, got, want)
	}
}

// P17.1: New is on that clock, whoever brings it on, and has nothing.
func TestNew(t *testing.T) {
	c := &clock.Clock{}
	c.Tick(7)
	l := lease.New(c)
	if l.Clock != c {
		t.Error("P17.1: it is on another clock")
	}
	check(t, l, 7, 0, 0)
	c.Tick(5)
	check(t, l, 12, 0, 0)
	if got := l.Tick(3, -1, 4); got != 19 || c.Now() != 19 {
		t.Errorf("P17.1: Tick of the lease: %d, and the clock at %d, want 19", got, c.Now())
	}
	check(t, l, 19, 0, 0)
}

// P17.1: New(nil) is on a clock of its own, each on another one.
func TestNewNil(t *testing.T) {
	a, b := lease.New(nil), lease.New(nil)
	check(t, a, 0, 0, 0)
	if got := a.Tick(5); got != 5 {
		t.Errorf("P17.1: Tick of its own clock: %d, want 5", got)
	}
	check(t, a, 5, 0, 0)
	check(t, b, 0, 0, 0)
	take(t, a, 3, 1, true)
	check(t, a, 5, 1, 18)
	check(t, b, 0, 0, 0)
	if a.Clock == nil || a.Clock == b.Clock {
		t.Error("P17.1: no clock of its own")
	}
}

// P17.1: two leases on one clock know nothing of each other's grants.
func TestApart(t *testing.T) {
	a, c := stand(t, 50)
	b := lease.New(c)
	take(t, a, 45, 9, true)
	check(t, b, 50, 0, 0)
	take(t, b, 50, 2, true)
	check(t, a, 50, 9, 15)
	b.Tick(15)
	check(t, a, 65, 9, 0)
	check(t, b, 65, 2, 5)
	a.Drop()
	check(t, b, 65, 2, 5)
}

// Ways, embedding: Now, Tick, Since are the clock's own, of a Lease as a value and behind a pointer.
func TestPromoted(t *testing.T) {
	l, c := stand(t, 30)
	for _, n := range odd() {
		if l.Since(n) != c.Since(n) {
			t.Errorf("P17.1: Since(%d): %d, the clock's: %d", n, l.Since(n), c.Since(n))
		}
	}
	if got := lease.Lease.Now(*l); got != 30 {
		t.Errorf("P17.1: Now of a Lease as a value: %d", got)
	}
	if got := (*lease.Lease).Tick(l); got != 31 || c.Now() != 31 {
		t.Errorf("P17.1: Tick(): %d, and the clock at %d, want 31", got, c.Now())
	}
	if l.Tick(-1) != 31 || l.Tick(edge) != 31 || l.Tick(edge-31) != edge || l.Tick() != edge || c.Now() != edge {
		t.Errorf("P17.1: Tick at the clock's edge: %d, want 2^40", l.Now())
	}
	if l.Since(edge) != 0 || l.Since(0) != edge || l.Since(edge+1) != 0 || l.Since(-1) != 0 {
		t.Error("P17.1: Since at the clock's edge")
	}
}

// P17.1: a grant is good for its epoch alone, till 20 ticks behind when it was asked, without the last.
func TestGood(t *testing.T) {
	l, c := stand(t, 40)
	sent := l.Ask()
	c.Tick(3)
	take(t, l, sent, 5, true)
	for now := int64(43); now < 70; now++ {
		check(t, l, now, 5, max(0, 60-now))
		if l.Good(5) != (now < 60) {
			t.Errorf("P17.1: at %d Good: %v", now, l.Good(5))
		}
		c.Tick()
	}
	c.Tick(edge - c.Now())
	check(t, l, edge, 5, 0)
}

// P17.1: sent is from 0 to Now, and less than 20 ticks ago.
func TestSent(t *testing.T) {
	for _, now := range []int64{0, 1, 19, 20, 21, 40, 1 << 32, edge - 1, edge} {
		for _, sent := range append(odd(), now-21, now-20, now-19, now-1, now, now+1, now+20) {
			l, _ := stand(t, now)
			if sent < 0 || sent > now || now-sent >= term {
				take(t, l, sent, 4, false)
				check(t, l, now, 0, 0)
				take(t, l, now, 1, true)
				continue
			}
			take(t, l, sent, 4, true)
			check(t, l, now, 4, sent+term-now)
		}
	}
}

// P17.1: an epoch is 1 or above, however great.
func TestEpoch(t *testing.T) {
	for _, epoch := range odd() {
		l, _ := stand(t, 25)
		take(t, l, 20, epoch, epoch > 0)
		if epoch > 0 {
			check(t, l, 25, epoch, 15)
			continue
		}
		check(t, l, 25, 0, 0)
		take(t, l, 6, 1, true)
		check(t, l, 25, 1, 1)
	}
}

// P17.1: of the epoch that it has only what lasts longer is taken; what is refused changes nothing.
func TestSameEpoch(t *testing.T) {
	l, c := stand(t, 100)
	take(t, l, 90, 3, true)
	for _, sent := range []int64{90, 89, 81, 80, 0, -1, 101} {
		take(t, l, sent, 3, false)
		check(t, l, 100, 3, 10)
	}
	take(t, l, 91, 3, true)
	check(t, l, 100, 3, 11)
	take(t, l, 90, 3, false)
	check(t, l, 100, 3, 11)
	take(t, l, 100, 3, true)
	take(t, l, 100, 3, false)
	check(t, l, 100, 3, 20)
	c.Tick(20)
	check(t, l, 120, 3, 0)
	take(t, l, 100, 3, false)
	take(t, l, 101, 3, true)
	check(t, l, 120, 3, 1)
	c.Tick(500)
	check(t, l, 620, 3, 0)
	take(t, l, 620, 3, true)
	check(t, l, 620, 3, 20)
}

// P17.1: a greater epoch takes the place of what it has, also if it lasts less long.
func TestGreaterEpoch(t *testing.T) {
	l, c := stand(t, 100)
	take(t, l, 100, 3, true)
	take(t, l, 81, 4, true)
	check(t, l, 100, 4, 1)
	take(t, l, 100, math.MaxInt64-1, true)
	take(t, l, 85, math.MaxInt64, true)
	check(t, l, 100, math.MaxInt64, 5)
	c.Tick(5)
	check(t, l, 105, math.MaxInt64, 0)
	take(t, l, 105, math.MaxInt64-1, false)
	take(t, l, 86, math.MaxInt64, true)
	check(t, l, 105, math.MaxInt64, 1)
}

// P17.1: a greater epoch that is refused doesn't count as one that it had.
func TestGreaterRefused(t *testing.T) {
	l, _ := stand(t, 100)
	for _, sent := range []int64{101, 80, -1, 0, math.MaxInt64, math.MinInt64} {
		take(t, l, sent, 9, false)
	}
	take(t, l, 90, 2, true)
	for _, sent := range []int64{101, 80, -1, 0, math.MaxInt64, math.MinInt64} {
		take(t, l, sent, 9, false)
	}
	check(t, l, 100, 2, 10)
	take(t, l, 95, 2, true)
	check(t, l, 100, 2, 15)
}

// P17.1: of a lesser epoch than one that it had since New nothing is taken, good still or not.
func TestLesserEpoch(t *testing.T) {
	l, c := stand(t, 100)
	take(t, l, 90, 3, true)
	for range 40 {
		for _, epoch := range []int64{2, 1, 0, -1, math.MinInt64} {
			take(t, l, l.Ask(), epoch, false)
		}
		check(t, l, c.Now(), 3, max(0, 110-c.Now()))
		c.Tick()
	}
	take(t, l, 140, 4, true)
	take(t, l, 140, 3, false)
	check(t, l, 140, 4, 20)
}

// P17.1: behind Drop it has none, and had none, of whichever epoch; the clock stays.
func TestDrop(t *testing.T) {
	l, c := stand(t, 100)
	l.Drop()
	check(t, l, 100, 0, 0)
	take(t, l, 90, 3, true)
	l.Drop()
	check(t, l, 100, 0, 0)
	take(t, l, 90, 3, true)
	check(t, l, 100, 3, 10)
	l.Drop()
	l.Drop()
	take(t, l, 85, 3, true)
	check(t, l, 100, 3, 5)
	c.Tick(30)
	take(t, l, 130, 2, false)
	l.Drop()
	check(t, l, 130, 0, 0)
	take(t, l, 111, 1, true)
	check(t, l, 130, 1, 1)
	take(t, l, 130, 2, true)
	if l.Clock != c || c.Now() != 130 {
		t.Error("P17.1: Drop touched the clock")
	}
}

// P17.1: where the clock ends a grant lasts on.
func TestEdge(t *testing.T) {
	l, c := stand(t, edge)
	take(t, l, edge-20, 1, false)
	take(t, l, edge-19, 1, true)
	check(t, l, edge, 1, 1)
	take(t, l, edge+1, 1, false)
	take(t, l, edge, 1, true)
	c.Tick()
	c.Tick(20)
	check(t, l, edge, 1, 20)
}

// P17.1: Take of all pairs of odd numbers, on a lease that has nothing, something, and something that is over.
func TestPairs(t *testing.T) {
	for _, now := range []int64{0, 20, 40, edge} {
		for _, had := range []grant{{-1, 0}, {now, 2}, {now - 19, 2}, {now - 5, edge}} {
			for _, ticks := range []int64{0, 1, 20} {
				for _, sent := range append(odd(), now-1, now, now+1, now+19) {
					for _, epoch := range odd() {
						pair(t, now, had, ticks, grant{sent, epoch})
					}
				}
			}
		}
	}
}

// pair takes two grants, some ticks from one another, and holds what comes of it against the reference.
func pair(t *testing.T, now int64, one grant, ticks int64, two grant) {
	t.Helper()
	l, c := stand(t, now)
	r := &ref{now: now}
	take(t, l, one.sent, one.epoch, r.take(one.sent, one.epoch))
	r.now = c.Tick(ticks)
	take(t, l, two.sent, two.epoch, r.take(two.sent, two.epoch))
	if l.Left() != r.left() {
		t.Errorf("P17.1: at %d %v, at %d %v: Left %d, want %d", now, one, r.now, two, l.Left(), r.left())
	}
	for _, epoch := range []int64{one.epoch, two.epoch, 0, -1} {
		if l.Good(epoch) != r.good(epoch) {
			t.Errorf("P17.1: at %d %v, at %d %v: Good(%d): %v", now, one, r.now, two, epoch, l.Good(epoch))
		}
	}
}

// P17.1: long runs of calls drawn at random, held against the reference one by one.
func TestDrawn(t *testing.T) {
	r := rand.New(rand.NewPCG(17, 1))
	for run := range 400 {
		start := []int64{0, 15, 100, edge - 60}[run%4]
		l, c := stand(t, start)
		w := &ref{now: start}
		for range 120 {
			switch r.IntN(6) {
			case 0:
				w.now = c.Tick(r.Int64N(4))
			case 1:
				w.now = l.Tick(r.Int64N(12))
			case 2:
				if r.IntN(4) == 0 {
					l.Drop()
					w.had = nil
				}
			default:
				sent, epoch := w.now-24+r.Int64N(27), r.Int64N(6)-1+r.Int64N(int64(run)+1)
				take(t, l, sent, epoch, w.take(sent, epoch))
			}
			g, _ := w.has()
			check(t, l, w.now, g.epoch, w.left())
		}
		if t.Failed() {
			t.Fatalf("run %d", run)
		}
	}
}

// P0.1, P17.1: a nil *Lease: 0, false, whatever it is told.
func TestNil(t *testing.T) {
	var none *lease.Lease
	for _, a := range odd() {
		for _, b := range odd() {
			if none.Take(a, b) {
				t.Errorf("P17.1: nil: Take(%d, %d)", a, b)
			}
		}
		none.Drop()
		if none.Good(a) || none.Left() != 0 || none.Ask() != 0 {
			t.Errorf("P17.1: nil: Good(%d) %v, Left %d, Ask %d", a, none.Good(a), none.Left(), none.Ask())
		}
	}
}

// P0.1: a Lease that New didn't make has a nil clock, which stands at 0: no call panics.
func TestZero(t *testing.T) {
	l := &lease.Lease{}
	check(t, l, 0, 0, 0)
	if l.Tick(5) != 0 || l.Since(3) != 0 {
		t.Error("P17.1: a nil clock counts")
	}
	for _, n := range odd() {
		take(t, l, n, 0, false)
		take(t, l, n, -1, false)
		if n != 0 {
			take(t, l, n, 1, false)
		}
	}
	l.Drop()
	check(t, l, 0, 0, 0)
}
