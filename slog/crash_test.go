package slog_test

import (
	"math/rand/v2"
	"slices"
	"strings"
	"testing"

	"icehouse/api"
	"icehouse/dev"
)

// P6.3: whatever of the loose sectors stays, and of those behind the next crash too, with records of all kinds of sizes.
func TestEachChoice(t *testing.T) {
	t.Parallel()
	for _, sizes := range [][]int{{1}, {52}, {53}, {106}, {300}, {1, 1, 1}, {51, 51}, {60, 60, 60}, {300, 1}, {1, 300}, {30, 200, 30}, {105, 105, 105}} {
		for _, ahead := range []int{0, 1, 2, 7} {
			m := newModel(t, dev.New(24), 0, 3)
			for k := range ahead {
				m.add(body(k, 90))
			}
			m.flush()
			for k, size := range sizes {
				m.add(body(100+k, size))
			}
			choices(len(m.d.Loose()), func(keep []bool) {
				again := m.fork(keep...)
				for k, size := range sizes {
					again.add(body(200+k, size))
				}
				choices(min(3, len(again.d.Loose())), func(keep []bool) {
					third := again.fork(keep...)
					third.add(body(250, sizes[0]))
					third.flush()
					third.crash()
				})
			})
		}
	}
}

// P6.3: at each step of a log that goes round, with each choice of what stays: what the round before left is never taken for this one's.
func TestEachStep(t *testing.T) {
	t.Parallel()
	m := newModel(t, dev.New(24), 0, 3)
	for k := range 60 {
		m.add(body(k, 1+k*k*13%300))
		if k%7 == 3 {
			m.flush()
		}
		choices(len(m.d.Loose()), func(keep []bool) { m.fork(keep...) })
	}
}

// P6.3: records of one size and of one byte lie in each round as they lay in the one before, so that only what the log adds tells them apart.
func TestRoundsAlike(t *testing.T) {
	t.Parallel()
	for _, size := range []int{20, 51, 52, 105, 158, 211, 300} {
		m := newModel(t, dev.New(24), 0, 3)
		for k := range 30 {
			m.add(strings.Repeat(string([]byte{byte('a' + k%2)}), size))
			choices(len(m.d.Loose()), func(keep []bool) { m.fork(keep...).add("x") })
		}
	}
}

// P6.3: what a crash lost does not come back when other records are appended in its place, be they of the same sizes.
func TestLostStaysLost(t *testing.T) {
	for _, size := range []int{40, 51, 60, 104, 140, 300} {
		m := newModel(t, dev.New(24), 0, 3)
		m.add("first")
		m.flush()
		for k := range 12 {
			m.add(body(k, size))
			m.add(body(k+100, size))
			keep := slices.Repeat([]bool{true}, len(m.d.Loose()))
			if n := len(keep); n > 1 {
				keep[k%n] = false
			}
			m.crash(keep...)
		}
	}
}

// P6.3: what was flushed stays, however often what is appended behind it is lost.
func TestLostAgainAndAgain(t *testing.T) {
	for _, size := range []int{1, 51, 150, 300} {
		m := newModel(t, dev.New(24), 0, 3)
		m.add("flushed")
		m.flush()
		for k := range 30 {
			m.add(body(k, size))
			m.crash()
			if len(m.was) != 1 || m.was[0] != (rec{1, "flushed"}) {
				t.Fatalf("P6.3: what was flushed is lost behind %d crashes: %v", k+1, m.was)
			}
		}
	}
}

// P6.1: behind a crash that loses all, Next is above each position that was told, be they as many as go in.
func TestNextAbove(t *testing.T) {
	t.Parallel()
	for n := range 450 {
		m := newModel(t, dev.New(24), 0, 3)
		for k := range n {
			if pos, err := m.l.Append([]byte{byte(k)}); pos != int64(k+1) || err != api.OK {
				t.Fatalf("P6.1: Append: %d, %v", pos, err)
			}
		}
		top := int64(n)
		for range 4 {
			d := m.d.Crash()
			l := open(t, d, 0, 3)
			if l.Next() <= top {
				t.Fatalf("P6.1: Next is %d, %d was told", l.Next(), top)
			}
			for range n % 230 {
				top, _ = l.Append([]byte("x"))
			}
			m.d = d
		}
	}
}

// P6.1: Next of a log that was opened and told nothing since stays as it is.
func TestOpenAgain(t *testing.T) {
	m := newModel(t, dev.New(24), 0, 3)
	for k := range 20 {
		m.add(body(k, 100))
		next, first, was := int64(0), m.l.First(), m.was
		for range 3 {
			m.open()
			if next != 0 && m.l.Next() != next || m.l.First() != first || !slices.Equal(told(t, m.l), was) {
				t.Fatalf("P6.1: First %d, Next %d behind Open again", m.l.First(), m.l.Next())
			}
			next = m.l.Next()
		}
	}
}

// P6.3: bodies that are sectors of the log itself, of this round and of earlier ones, are bodies all the same.
func TestBodiesLikeSectors(t *testing.T) {
	t.Parallel()
	r := rand.New(rand.NewPCG(7, 6))
	m := newModel(t, dev.New(24), 0, 3)
	var sectors []string
	for k := range 60 {
		sectors = append(sectors, contents(t, m.d)[r.IntN(24)])
		b := strings.Repeat("-", r.IntN(64))
		for len(b) < 230 {
			b += sectors[r.IntN(len(sectors))]
		}
		m.add(b)
		choices(len(m.d.Loose()), func(keep []bool) { m.fork(keep...) })
		if k%11 == 10 {
			m.crash(true, k%2 == 0, true, true)
		}
	}
}

// P6.1 to P6.3: long walks, with crashes of all kinds, on logs of all lengths, beside other sectors.
func TestWalks(t *testing.T) {
	t.Parallel()
	for seed := range uint64(100) {
		r := rand.New(rand.NewPCG(seed, 6))
		segs, from := 3+r.IntN(7), r.IntN(5)
		m := newModel(t, filled(t, from+segs*api.SegLen+r.IntN(3), byte(seed)), from, segs)
		most, crashes := 1+r.IntN(300), 1+r.IntN(20)
		for k := range 200 {
			switch x := r.IntN(100); {
			case x < crashes:
				keep := make([]bool, 10)
				for i := range keep {
					keep[i] = r.IntN(3) > 0
				}
				m.crash(keep...)
			case x < crashes+3:
				m.open()
				m.check()
			case x < crashes+15:
				m.flush()
			default:
				m.add(body(k, 1+r.IntN(most)))
			}
		}
	}
}
