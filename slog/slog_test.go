package slog_test

import (
	"bytes"
	"fmt"
	"math"
	"math/rand/v2"
	"slices"
	"strings"
	"testing"

	"icehouse/api"
	"icehouse/dev"
	"icehouse/slog"
	"icehouse/super"
)

// body is a text of that many bytes, another one for each k.
func body(k, size int) string {
	b := []byte(strings.Repeat(string([]byte{byte(k)}), size))
	copy(b, fmt.Sprint(k, " "))
	return string(b)
}

// P6.1: ErrRange, if the segments are too few, too many or not there.
func TestOpenRange(t *testing.T) {
	for _, n := range []int{1, 23, 24, 25, 50, 1600, 2048} {
		d := filled(t, n, 0xee)
		before := contents(t, d)
		for _, segs := range []int{math.MinInt64, -1, 0, 1, 2, 3, 4, 6, 199, 200, 201, 256, 1 << 40, 1 << 60, 1 << 61, math.MaxInt64} {
			last := n - segs*api.SegLen
			for _, from := range []int{math.MinInt64, -24, -1, 0, 1, last - 1, last, last + 1, n - 1, n, 1 << 40, 1 << 62, math.MaxInt64} {
				want := api.ErrRange
				if segs >= 3 && segs <= 200 && from >= 0 && from <= last {
					want = api.OK
				}
				if l, err := slog.Open(d, from, segs); err != want || (l != nil) != (want == api.OK) {
					t.Errorf("P6.1: Open(%d, %d) of %d sectors: %v, want %v", from, segs, n, err, want)
				}
			}
		}
		if d.Calls() != 0 || !slices.Equal(contents(t, d), before) {
			t.Errorf("P6.3: Open wrote: %d calls", d.Calls())
		}
	}
}

// P6.1: a log in each corner of a device, as short and as long as it may be, goes round in its own sectors alone.
func TestOwnSectors(t *testing.T) {
	for _, c := range []struct{ n, from, segs int }{{24, 0, 3}, {25, 1, 3}, {50, 26, 3}, {60, 7, 5}, {1600, 0, 200}, {2048, 448, 200}, {2048, 3, 200}} {
		d := filled(t, c.n, 0xee)
		l := open(t, d, c.from, c.segs)
		if l.First() != 1 || l.Next() != 1 || len(l.All()) != 0 {
			t.Errorf("P6.1: an empty one: First %d, Next %d", l.First(), l.Next())
		}
		for k := range c.segs * 4 {
			if pos, err := l.Append([]byte(body(k, 250))); pos != int64(k+1) || err != api.OK {
				t.Fatalf("P6.1: Append: %d, %v", pos, err)
			}
		}
		if err := l.Flush(); err != api.OK {
			t.Errorf("P6.1: Flush: %v", err)
		}
		if got := told(t, l); len(got) < c.segs-2 || got[len(got)-1] != (rec{int64(c.segs * 4), body(c.segs*4-1, 250)}) {
			t.Errorf("P6.1: %d records are left of %d segments", len(got), c.segs)
		}
		for i, sector := range contents(t, d) {
			own := i >= c.from && i < c.from+c.segs*api.SegLen
			if !own && sector != strings.Repeat("\xee", api.Sector) {
				t.Errorf("P6.1: the log of %d segments from %d on wrote into the sector %d", c.segs, c.from, i)
			}
		}
	}
}

// P6.1: bodies of 1 to 300 bytes, of all kinds of bytes, come back as they were, behind Open too.
func TestBodies(t *testing.T) {
	m := newModel(t, dev.New(40), 0, 5)
	for size := 1; size <= 300; size++ {
		m.add(body(size, size))
		if size%37 == 0 {
			m.flush()
			m.crash()
		}
	}
	for c := range 256 {
		m.add(strings.Repeat(string([]byte{byte(c)}), 1+c%300))
	}
}

// P6.1: ErrForm of what is too short or too long; it changes nothing.
func TestAppendRefused(t *testing.T) {
	d := dev.New(24)
	m := newModel(t, d, 0, 3)
	for round := range 3 {
		calls, next := d.Calls(), m.l.Next()
		for _, size := range []int{0, 301, 302, 424, 1 << 16, 1 << 20} {
			if pos, err := m.l.Append(make([]byte, size)); pos != 0 || err != api.ErrForm {
				t.Errorf("P6.1: Append of %d bytes: %d, %v, want ErrForm", size, pos, err)
			}
		}
		if pos, err := m.l.Append(nil); pos != 0 || err != api.ErrForm {
			t.Errorf("P0.4: Append of nil: %d, %v, want ErrForm", pos, err)
		}
		if d.Calls() != calls || m.l.Next() != next {
			t.Errorf("P6.1: what was refused wrote, or has a position")
		}
		m.add(body(round, 300))
	}
}

// P6.1: positions go up one by one however often it goes round; the eldest go; what is gone is not told.
func TestPositions(t *testing.T) {
	for _, segs := range []int{3, 4, 9} {
		m := newModel(t, dev.New(segs*api.SegLen), 0, segs)
		first := int64(1)
		for k := range 700 {
			m.add(body(k, 1+(k*k*7)%300))
			if m.top() != int64(k+1) {
				t.Fatalf("P6.1: the record %d has the position %d", k+1, m.top())
			}
			if m.l.First() < first {
				t.Fatalf("P6.1: First was %d and is %d", first, m.l.First())
			}
			first = m.l.First()
			for _, pos := range []int64{1, first / 2, first - 1} {
				if pos < first {
					none(t, m.l, pos)
				}
			}
		}
		if first < 600 {
			t.Errorf("P6.1: %d segments have all records from %d on", segs, first)
		}
	}
}

// P6.2: records of each size, and in turn with those of each other kind, stay as long as they must.
func TestKeepsSizes(t *testing.T) {
	t.Parallel()
	for _, segs := range []int{3, 4, 5} {
		for size := 1; size <= 300; size++ {
			m := newModel(t, dev.New(segs*api.SegLen), 0, segs)
			for k := range segs*2 + segs*1000/(size+60) {
				m.add(body(k, size))
			}
		}
	}
	sizes := []int{1, 2, 50, 51, 52, 60, 63, 64, 104, 116, 117, 119, 120, 121, 122, 123, 124, 130, 200, 210, 211, 298, 299, 300}
	for _, a := range sizes {
		for _, b := range sizes {
			m := newModel(t, dev.New(24), 0, 3)
			for k := range 12 {
				m.add(body(k, a))
				m.add(body(k, b))
			}
		}
	}
}

// P6.2: each Open counts 400 and no more, with or without a crash, whatever lies between.
func TestKeepsOpens(t *testing.T) {
	t.Parallel()
	for _, segs := range []int{3, 4, 5, 6, 8, 13} {
		for _, size := range []int{1, 20, 63, 64, 119, 120, 140, 260, 300} {
			for every := 1; every <= 5; every++ {
				m := newModel(t, dev.New(segs*api.SegLen), 0, segs)
				for k := range segs * 6 {
					m.add(body(k, size))
					switch {
					case k%every != 0:
					case size%2 == 0:
						m.open()
						m.check()
					default:
						m.flush()
						m.crash()
					}
				}
			}
		}
	}
}

// P6.1 to P6.3: the longest log there may be, over many rounds.
func TestLongest(t *testing.T) {
	r := rand.New(rand.NewPCG(1, 6))
	d := dev.New(1600)
	l := open(t, d, 0, 200)
	var all []rec
	for k := range 6000 {
		b := body(k, 1+r.IntN(300))
		pos, err := l.Append([]byte(b))
		if err != api.OK {
			t.Fatalf("P6.1: Append: %v", err)
		}
		all = append(all, rec{pos, b})
		if k%1500 == 1499 {
			l.Flush()
			d = d.Crash()
			l = open(t, d, 0, 200)
			weight, n := 400, 0
			for weight += len(all[len(all)-1].body) + 60; weight <= 200*198; weight += len(all[len(all)-1-n].body) + 60 {
				n++
			}
			got := told(t, l)
			if len(got) < n || !slices.Equal(got, all[len(all)-len(got):]) {
				t.Fatalf("P6.2: %d records are told, not %d", len(got), n)
			}
		}
	}
}

// P6.1: Flush makes all that was appended last, and a Flush of nothing too.
func TestFlush(t *testing.T) {
	m := newModel(t, dev.New(24), 0, 3)
	m.flush()
	m.crash()
	for k := range 40 {
		m.add(body(k, 1+k*53%300))
		m.flush()
		before := m.was
		m.crash()
		if !slices.Equal(m.was, before) {
			t.Fatalf("P6.3: of %d records that were flushed %d are there behind a crash", len(before), len(m.was))
		}
	}
}

// P6.1: two logs and a super on one device do not touch each other.
func TestNeighbours(t *testing.T) {
	d := dev.New(60)
	a, b := newModel(t, d, 0, 3), newModel(t, d, 26, 4)
	s, err := super.Make(d, 24, []byte("text"))
	if err != api.OK {
		t.Fatalf("P5.1: Make: %v", err)
	}
	for k := range 120 {
		a.add(body(k, 1+k*31%300))
		if k%3 == 0 {
			b.add(body(k, 1+k*17%300))
		}
		if k%10 == 0 {
			s.Save([]byte(body(k, 40)))
		}
	}
	a.check()
	b.check()
	a.flush()
	b.flush()
	c := d.Crash()
	a.d, b.d = c, c
	a.crash()
	b.crash()
	if y, err := super.Open(c, 24); err != api.OK || string(y.Text()) != body(110, 40) {
		t.Errorf("P5.1: Open beside logs: %v", err)
	}
}

// P6.1 and P0.1: whatever bytes the device has, a log that was never there is empty, and works.
func TestGarbage(t *testing.T) {
	t.Parallel()
	r := rand.New(rand.NewPCG(3, 6))
	var devices []*dev.Dev
	for c := range 256 {
		devices = append(devices, filled(t, 24, byte(c)))
	}
	for range 300 {
		d := dev.New(24)
		for i := range 24 {
			b := make([]byte, api.Sector)
			for k := range b {
				b[k] = byte(r.Uint32() >> (r.IntN(4) * 8))
			}
			d.Write(i, b)
		}
		d.Flush()
		devices = append(devices, d)
	}
	for _, d := range devices {
		m := newModel(t, d, 0, 3)
		if m.l.First() != 1 || m.l.Next() != 1 || len(m.l.All()) != 0 {
			t.Fatalf("P6.1: an empty one: First %d, Next %d", m.l.First(), m.l.Next())
		}
		for k := range 6 {
			m.add(body(k, 300))
			m.add(body(k, 1+k))
		}
		m.flush()
		m.crash()
	}
}

// P6.1 and P5.1: what a super left is no log's, and what a log left is no super's.
func TestSuperBefore(t *testing.T) {
	d := dev.New(24)
	for at := 0; at < 24; at += 2 {
		s, err := super.Make(d, at, []byte("\x02a"))
		for range 40 {
			if err != api.OK {
				t.Fatalf("P5.1: %v", err)
			}
			err = s.Save([]byte("\x02a\x02b"))
		}
	}
	m := newModel(t, d, 0, 3)
	if m.l.First() != 1 || m.l.Next() != 1 || len(m.l.All()) != 0 {
		t.Errorf("P6.1: an empty one: First %d, Next %d", m.l.First(), m.l.Next())
	}
	for k := range 60 {
		m.add(body(k, 1+k%30))
	}
	for at := range 12 {
		if s, err := super.Open(d, at); s != nil || err != api.ErrCorrupt {
			t.Errorf("P5.1: Open(%d) of what a log left: %v, want ErrCorrupt", at, err)
		}
	}
}

// P6.3: a byte that is spoilt may take records away, but what is told is whole and in order, and the log goes on.
func TestSpoilt(t *testing.T) {
	m := newModel(t, dev.New(24), 0, 3)
	for k := range 40 {
		m.add(body(k, 1+k*53%300))
	}
	m.flush()
	all := m.alive()
	for i := range 24 {
		for at := range api.Sector {
			d := m.d.Crash()
			b, _ := d.Read(i)
			b[at] ^= 0x10
			d.Write(i, b)
			l := open(t, d, 0, 3)
			for _, r := range told(t, l) {
				if !slices.Contains(all, r) {
					t.Fatalf("P6.3: with the sector %d spoilt %d is told as %q", i, r.pos, r.body)
				}
			}
			if pos, err := l.Append([]byte("more")); err != api.OK || pos < 1 {
				t.Fatalf("P6.1: Append with the sector %d spoilt: %d, %v", i, pos, err)
			}
			told(t, l)
		}
	}
}

// P0.1: two Logs of one place, which know nothing of each other, panic at nothing.
func TestTwoOfOnePlace(t *testing.T) {
	r := rand.New(rand.NewPCG(5, 6))
	d := dev.New(24)
	logs := []*slog.Log{open(t, d, 0, 3), open(t, d, 0, 3)}
	for k := range 2000 {
		if _, err := logs[r.IntN(2)].Append([]byte(body(k, 1+r.IntN(300)))); err != api.OK {
			t.Fatalf("P0.1: Append: %v", err)
		}
		for _, l := range logs {
			l.All()
			for pos := l.First(); pos <= l.Next(); pos++ {
				l.Read(pos)
			}
		}
		if k%100 == 99 {
			logs[r.IntN(2)] = open(t, d, 0, 3)
		}
	}
}

// P0.1: one place opened with other segments and from other sectors, again and again.
func TestOtherSegments(t *testing.T) {
	r := rand.New(rand.NewPCG(6, 6))
	d := dev.New(80)
	ever := map[string]bool{}
	for k := range 1500 {
		l := open(t, d, r.IntN(3)*4+r.IntN(2), 3+r.IntN(6))
		for range 1 + r.IntN(8) {
			b := body(k, 10+r.IntN(290))
			ever[b] = true
			if _, err := l.Append([]byte(b)); err != api.OK {
				t.Fatalf("P0.1: Append: %v", err)
			}
		}
		for _, r := range told(t, l) {
			if !ever[r.body] {
				t.Fatalf("P6.3: %d is told as %q", r.pos, r.body)
			}
		}
		d = d.Crash(r.IntN(2) == 0, r.IntN(2) == 0, r.IntN(2) == 0)
	}
}

// P6.3: a nil Log is down, whatever it is told, and tells nothing; P0.1: so is one that Open did not make.
func TestNil(t *testing.T) {
	for _, l := range []*slog.Log{nil, new(slog.Log)} {
		for _, size := range []int{0, 1, 300, 301} {
			if pos, err := l.Append(make([]byte, size)); pos != 0 || err != api.ErrDown {
				t.Errorf("P6.3: Append of %d bytes: %d, %v, want ErrDown", size, pos, err)
			}
		}
		for _, pos := range []int64{math.MinInt64, -1, 0, 1, math.MaxInt64} {
			if b, err := l.Read(pos); len(b) != 0 || err != api.ErrDown {
				t.Errorf("P6.3: Read(%d): %q, %v, want ErrDown", pos, b, err)
			}
		}
		if err := l.Flush(); err != api.ErrDown {
			t.Errorf("P6.3: Flush: %v, want ErrDown", err)
		}
		if len(l.All()) != 0 || l.First() != 0 || l.Next() != 0 {
			t.Errorf("P6.3: it tells %v, %d, %d", l.All(), l.First(), l.Next())
		}
	}
	for _, d := range []*dev.Dev{nil, new(dev.Dev)} {
		for _, from := range []int{math.MinInt64, -24, 0, math.MaxInt64} {
			if l, err := slog.Open(d, from, 3); l != nil || err != api.ErrRange {
				t.Errorf("P6.1: Open(%d) of no sectors: %v, want ErrRange", from, err)
			}
		}
	}
}

// P0.3: what is handed in stays, its spare room too, and is not kept; what is answered is new memory, its spare room too.
func TestMemory(t *testing.T) {
	l := open(t, dev.New(24), 0, 3)
	room := []byte("abcdefgh")
	for range 3 {
		if _, err := l.Append(room[:3]); err != api.OK || string(room) != "abcdefgh" {
			t.Fatalf("P0.3: Append: %v; its bytes are %q", err, room)
		}
	}
	clear(room)
	want := []rec{{1, "abc"}, {2, "abc"}, {3, "abc"}}
	one, two := l.All(), l.All()
	read, _ := l.Read(2)
	for i := range one[:cap(one)] {
		b := one[:cap(one)][i].Body
		clear(b[:cap(b)])
		one[:cap(one)][i] = slog.Rec{}
	}
	clear(read[:cap(read)])
	for i, r := range two {
		if r.Pos != want[i].pos || string(r.Body) != want[i].body {
			t.Errorf("P0.3: two answers share memory: %d, %q", r.Pos, r.Body)
		}
		b := append(r.Body, "more"...)
		clear(b)
	}
	if got := told(t, l); !slices.Equal(got, want) {
		t.Errorf("P0.3: the log was changed by way of an answer: %v", got)
	}
	if pos, err := l.Append([]byte("more")); pos != 4 || err != api.OK || len(told(t, l)) != 4 {
		t.Errorf("P0.3: Append behind it: %d, %v", pos, err)
	}
}

// P0.5: the same calls have the same answers, and leave the same bytes.
func TestSame(t *testing.T) {
	play := func() ([]string, []rec) {
		d := dev.New(32)
		l := open(t, d, 0, 4)
		for k := range 100 {
			l.Append(bytes.Repeat([]byte{byte(k)}, 1+k*71%300))
			if k%9 == 0 {
				l.Flush()
			}
			if k%23 == 0 {
				d = d.Crash(k%2 == 0, true)
				l = open(t, d, 0, 4)
			}
		}
		return contents(t, d), told(t, l)
	}
	bytesOne, one := play()
	bytesTwo, two := play()
	if !slices.Equal(bytesOne, bytesTwo) || !slices.Equal(one, two) {
		t.Error("P0.5: the same calls had other answers, or left other bytes")
	}
}
