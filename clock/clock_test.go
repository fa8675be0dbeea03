package clock_test

import (
	"math"
	"math/big"
	"math/rand/v2"
	"slices"
	"testing"

	"icehouse/clock"
)

const edge = 1 << 40

// The references below are written from the chapter, on numbers that never wrap.

// refTick is where a clock that stood at now stands behind Tick of ns.
func refTick(now int64, ns []int64) int64 {
	if len(ns) == 0 {
		ns = []int64{1}
	}
	at := big.NewInt(now)
	for _, n := range ns {
		then := new(big.Int).Add(at, big.NewInt(n))
		if n < 0 || then.Cmp(big.NewInt(edge)) > 0 {
			continue
		}
		at = then
	}
	return at.Int64()
}

// refSince is how long ago t was on a clock that stands at now.
func refSince(now, t int64) int64 {
	way := new(big.Int).Sub(big.NewInt(now), big.NewInt(t))
	if t < 0 || way.Sign() < 0 {
		return 0
	}
	return way.Int64()
}

// odd are numbers about all limits, and about those that narrower integers would have.
func odd() []int64 {
	return []int64{
		0, 1, 2, 3, 7, 255, 256, 1<<31 - 1, 1 << 31, 1<<32 - 1, 1 << 32, 1<<32 + 1, 1 << 39, edge/2 - 1, edge/2 + 1,
		edge - 2, edge - 1, edge, edge + 1, edge + 2, 1 << 41, 1 << 62,
		math.MaxInt64 - edge - 1, math.MaxInt64 - edge, math.MaxInt64 - edge + 1, math.MaxInt64 - 1, math.MaxInt64,
		-1, -2, -1 << 32, -edge - 1, -edge, -edge + 1, math.MinInt64 + edge, math.MinInt64 + 1, math.MinInt64,
	}
}

// stand is a clock that was brought to now in one go.
func stand(t *testing.T, now int64) *clock.Clock {
	t.Helper()
	c := &clock.Clock{}
	if got := c.Tick(now); got != now {
		t.Fatalf("P16.1: Tick(%d) of a zero Clock: %d", now, got)
	}
	return c
}

// checkAt holds where a clock stands, and each Since of it, against the chapter.
func checkAt(t *testing.T, c *clock.Clock, want int64) {
	t.Helper()
	if got := c.Now(); got != want {
		t.Errorf("P16.1: Now: %d, want %d", got, want)
	}
	for _, at := range append(odd(), want-1, want, want+1, want/2) {
		if got := c.Since(at); got != refSince(want, at) {
			t.Errorf("P16.1: at %d Since(%d): %d, want %d", want, at, got, refSince(want, at))
		}
	}
	if got := c.Now(); got != want {
		t.Errorf("P16.1: Since brought it from %d to %d", want, got)
	}
}

// brief is the beginning of a list, for what a test tells of a very long one.
func brief(ns []int64) []int64 { return ns[:min(len(ns), 9)] }

// checkTick holds Tick of ns, on a clock that stands at now, against the chapter.
func checkTick(t *testing.T, now int64, ns []int64) {
	t.Helper()
	c := stand(t, now)
	was := slices.Clone(ns)
	want := refTick(now, was)
	if got := c.Tick(ns...); got != want || c.Now() != want {
		t.Errorf("P16.1: at %d Tick(%v): %d, and Now %d, want %d", now, brief(was), got, c.Now(), want)
	}
	if !slices.Equal(ns, was) {
		t.Errorf("P0.3: %v was changed to %v", brief(was), brief(ns))
	}
}

// P16.1: a zero Clock stands at 0, as a value and behind a pointer.
func TestZero(t *testing.T) {
	var c clock.Clock
	checkAt(t, &c, 0)
	checkAt(t, &clock.Clock{}, 0)
	checkAt(t, new(clock.Clock), 0)
}

// P16.1: Tick, by hand, one behind the other: of none, of several, of such as are passed over between others.
func TestTickKnown(t *testing.T) {
	var c clock.Clock
	for i, s := range []struct {
		ns   []int64
		want int64
	}{
		{nil, 1},
		{[]int64{}, 2},
		{[]int64{0}, 2},
		{[]int64{1}, 3},
		{[]int64{-1}, 3},
		{[]int64{4, 5}, 12},
		{[]int64{0, 0, 0}, 12},
		{[]int64{-7, 3, -9, 1, -1}, 16},
		{[]int64{math.MinInt64, math.MinInt64}, 16},
		{[]int64{math.MaxInt64, 4}, 20},
		{[]int64{math.MaxInt64, math.MaxInt64, math.MaxInt64, 2}, 22},
		{[]int64{edge, 2}, 24},
		{[]int64{edge - 23}, 24},
		{[]int64{edge - 24 - 5}, edge - 5},
		{[]int64{6, 3, 3, 2, 1}, edge},
		{nil, edge},
		{[]int64{1}, edge},
		{[]int64{0}, edge},
		{[]int64{-1}, edge},
		{[]int64{-edge, edge, math.MaxInt64, math.MinInt64}, edge},
	} {
		if got := c.Tick(s.ns...); got != s.want {
			t.Fatalf("P16.1: step %d, Tick(%v): %d, want %d", i, s.ns, got, s.want)
		}
		checkAt(t, &c, s.want)
	}
}

// P16.1: 2^40 is reached, and not left, in whichever steps: at once, by the last 1, by none.
func TestTickEdge(t *testing.T) {
	for _, ns := range [][]int64{
		{edge}, {edge + 1, edge}, {edge - 1, 1}, {edge - 1, 2, 1, 1}, {1, edge, edge - 1}, {edge / 2, edge / 2, edge / 2}, {edge, -1, 1},
	} {
		checkTick(t, 0, ns)
		if got := new(clock.Clock).Tick(ns...); got != edge {
			t.Errorf("P16.1: Tick(%v): %d, want 2^40", ns, got)
		}
	}
	c := stand(t, edge-1)
	for range 3 {
		if got := c.Tick(); got != edge {
			t.Errorf("P16.1: Tick() ahead of 2^40 or there: %d", got)
		}
	}
	checkAt(t, c, edge)
	if got := new(clock.Clock).Tick(edge + 1); got != 0 {
		t.Errorf("P16.1: Tick(2^40 + 1): %d", got)
	}
}

// P16.1: Tick of all pairs of odd numbers, wherever the clock stands.
func TestTickPairs(t *testing.T) {
	for _, now := range odd() {
		if now < 0 || now > edge {
			continue
		}
		checkAt(t, stand(t, now), now)
		checkTick(t, now, nil)
		for _, a := range odd() {
			checkTick(t, now, []int64{a})
			for _, b := range odd() {
				checkTick(t, now, []int64{a, b})
			}
		}
	}
}

// P16.1: one clock through many calls, with lists drawn at random: it never goes back.
func TestTickDrawn(t *testing.T) {
	r := rand.New(rand.NewPCG(16, 1))
	all := odd()
	for range 200 {
		c, now := &clock.Clock{}, int64(0)
		for range 40 {
			ns := make([]int64, r.IntN(7))
			for i := range ns {
				ns[i] = all[r.IntN(len(all))]
				if r.IntN(2) == 0 {
					ns[i] = r.Int64N(edge>>r.IntN(40)+1) - 1
				}
			}
			want := refTick(now, ns)
			if got := c.Tick(ns...); got != want || got < now {
				t.Fatalf("P16.1: at %d Tick(%v): %d, want %d", now, ns, got, want)
			}
			now = want
			checkAt(t, c, now)
		}
	}
}

// P0.1, P16.1: Tick of very long lists.
func TestTickLong(t *testing.T) {
	for _, n := range []int64{0, 1, -1, 3, 1 << 20, edge, math.MaxInt64, math.MinInt64} {
		checkTick(t, 0, slices.Repeat([]int64{n}, 1<<20))
		checkTick(t, edge-7, slices.Repeat([]int64{n}, 1<<20))
	}
}

// P16.1: Since, by hand: at Now and at 0, one beyond each, and far from both.
func TestSinceKnown(t *testing.T) {
	for _, c := range []struct{ now, t, want int64 }{
		{0, 0, 0},
		{0, 1, 0},
		{0, -1, 0},
		{0, math.MinInt64, 0},
		{0, math.MaxInt64, 0},
		{20, 0, 20},
		{20, 1, 19},
		{20, 19, 1},
		{20, 20, 0},
		{20, 21, 0},
		{20, -1, 0},
		{20, -20, 0},
		{20, math.MinInt64, 0},
		{20, math.MinInt64 + 20, 0},
		{20, math.MinInt64 + 21, 0},
		{20, math.MaxInt64, 0},
		{20, 1<<32 + 1, 0},
		{edge, 0, edge},
		{edge, 1, edge - 1},
		{edge, edge - 1, 1},
		{edge, edge, 0},
		{edge, edge + 1, 0},
		{edge, -1, 0},
		{edge, math.MinInt64, 0},
	} {
		if got := stand(t, c.now).Since(c.t); got != c.want {
			t.Errorf("P16.1: at %d Since(%d): %d, want %d", c.now, c.t, got, c.want)
		}
	}
}

// P0.1, P16.1: a nil *Clock: 0, whatever it is told.
func TestNil(t *testing.T) {
	var none *clock.Clock
	for range 2 {
		if got := none.Now(); got != 0 {
			t.Errorf("P16.1: nil: Now: %d", got)
		}
		if got := none.Tick(); got != 0 {
			t.Errorf("P16.1: nil: Tick(): %d", got)
		}
		if got := none.Tick(odd()...); got != 0 {
			t.Errorf("P16.1: nil: Tick of several: %d", got)
		}
		for _, n := range odd() {
			if tick, since := none.Tick(n), none.Since(n); tick != 0 || since != 0 {
				t.Errorf("P16.1: nil: Tick(%d): %d, Since: %d", n, tick, since)
			}
		}
	}
}

// P0.5: what a clock says hangs on what it was told itself: neither on another one nor on the value that it was copied to.
func TestApart(t *testing.T) {
	a, b := &clock.Clock{}, &clock.Clock{}
	a.Tick(5)
	checkAt(t, b, 0)
	b.Tick(9)
	checkAt(t, a, 5)
	held := *a
	a.Tick()
	checkAt(t, &held, 5)
	held.Tick(2)
	checkAt(t, &held, 7)
	checkAt(t, a, 6)
	checkAt(t, b, 9)
}

// P0.3: what is handed in is neither changed nor kept, the room behind it neither.
func TestMemory(t *testing.T) {
	room := []int64{3, -1, edge, 4, 50, 60}
	was := slices.Clone(room)
	c := &clock.Clock{}
	if got := c.Tick(room[:4]...); got != 7 {
		t.Errorf("P16.1: Tick(%v): %d, want 7", was[:4], got)
	}
	if !slices.Equal(room, was) {
		t.Errorf("P0.3: %v was changed to %v", was, room)
	}
	clear(room)
	checkAt(t, c, 7)
}
