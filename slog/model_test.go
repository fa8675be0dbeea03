package slog_test

import (
	"math"
	"slices"
	"strings"
	"testing"

	"icehouse/api"
	"icehouse/dev"
	"icehouse/slog"
)

func open(t *testing.T, d *dev.Dev, from, segs int) *slog.Log {
	t.Helper()
	calls, loose, before := d.Calls(), d.Loose(), contents(t, d)
	l, err := slog.Open(d, from, segs)
	if err != api.OK {
		t.Fatalf("P6.1: Open(%d, %d) of %d sectors: %v", from, segs, d.Len(), err)
	}
	if d.Calls() != calls || !slices.Equal(d.Loose(), loose) || !slices.Equal(contents(t, d), before) {
		t.Fatalf("P6.3: Open(%d, %d) wrote", from, segs)
	}
	return l
}

// contents reads all sectors.
func contents(t *testing.T, d *dev.Dev) []string {
	t.Helper()
	var out []string
	for i := range d.Len() {
		b, err := d.Read(i)
		if err != api.OK {
			t.Fatalf("P4.1: Read(%d): %v", i, err)
		}
		out = append(out, string(b))
	}
	return out
}

// filled is a device whose sectors are all full of c, and last.
func filled(t *testing.T, n int, c byte) *dev.Dev {
	t.Helper()
	d := dev.New(n)
	for i := range n {
		if err := d.Write(i, []byte(strings.Repeat(string([]byte{c}), api.Sector))); err != api.OK {
			t.Fatalf("P4.1: Write(%d): %v", i, err)
		}
	}
	d.Flush()
	return d.Crash()
}

// rec is a record that was told: a body as a text, so that records can be held against each other.
type rec struct {
	pos  int64
	body string
}

// told is what All tells. Read, First and Next must tell the same, and Read nothing of what is not there.
func told(t *testing.T, l *slog.Log) []rec {
	t.Helper()
	var out []rec
	last := int64(0)
	for _, r := range l.All() {
		if r.Pos <= last {
			t.Fatalf("P6.1: All tells %d behind %d", r.Pos, last)
		}
		if b, err := l.Read(r.Pos); err != api.OK || string(b) != string(r.Body) {
			t.Fatalf("P6.1: Read(%d): %q, %v, want %q", r.Pos, b, err, r.Body)
		}
		for pos := max(last+1, r.Pos-3); pos < r.Pos; pos++ {
			none(t, l, pos)
		}
		last = r.Pos
		out = append(out, rec{r.Pos, string(r.Body)})
	}
	first := l.Next()
	if len(out) > 0 {
		first = out[0].pos
	}
	if l.First() != first || l.Next() <= last || l.Next() < 1 {
		t.Fatalf("P6.1: First %d, Next %d; the records are from %d to %d", l.First(), l.Next(), first, last)
	}
	for _, pos := range []int64{math.MinInt64, -1, 0, first - 1, l.Next(), l.Next() + 1, 1 << 40, math.MaxInt64} {
		none(t, l, pos)
	}
	return out
}

func none(t *testing.T, l *slog.Log, pos int64) {
	t.Helper()
	if b, err := l.Read(pos); len(b) != 0 || err != api.ErrNone {
		t.Fatalf("P6.1: Read(%d): %q, %v, want ErrNone", pos, b, err)
	}
}

// event is a record that was appended, or an Open (pos 0), and what it counts.
type event struct {
	rec
	weight int
	lost   bool // in a crash: it may come back no more
}

// model is a log, and what it was told.
type model struct {
	t       *testing.T
	d       *dev.Dev
	from    int
	segs    int
	l       *slog.Log
	events  []event
	was     []rec // what was told last
	flushed int64 // the last position that a Flush made last
	first   int64 // First, when the last Flush came back
}

func newModel(t *testing.T, d *dev.Dev, from, segs int) *model {
	t.Helper()
	m := &model{t: t, d: d, from: from, segs: segs, first: 1}
	m.open()
	return m
}

func (m *model) open() {
	m.t.Helper()
	m.l = open(m.t, m.d, m.from, m.segs)
	m.events = append(m.events, event{weight: 400})
	if top := m.top(); m.l.Next() <= top {
		m.t.Fatalf("P6.1: Next is %d behind Open, %d was told", m.l.Next(), top)
	}
}

// top is the greatest position that was ever told.
func (m *model) top() int64 {
	for i := len(m.events) - 1; i >= 0; i-- {
		if m.events[i].pos > 0 {
			return m.events[i].pos
		}
	}
	return 0
}

func (m *model) add(body string) {
	m.t.Helper()
	next := m.l.Next()
	pos, err := m.l.Append([]byte(body))
	if err != api.OK || pos != next || m.l.Next() != pos+1 {
		m.t.Fatalf("P6.1: Append of %d bytes: %d, %v; Next was %d and is %d", len(body), pos, err, next, m.l.Next())
	}
	m.events = append(m.events, event{rec: rec{pos, body}, weight: len(body) + 60})
	m.check()
}

func (m *model) flush() {
	m.t.Helper()
	if err := m.l.Flush(); err != api.OK || len(m.d.Loose()) != 0 {
		m.t.Fatalf("P6.1: Flush: %v, %v is loose", err, m.d.Loose())
	}
	m.flushed, m.first = m.top(), m.l.First()
}

// alive are the records that no crash has lost.
func (m *model) alive() []rec {
	var out []rec
	for _, e := range m.events {
		if e.pos > 0 && !e.lost {
			out = append(out, e.rec)
		}
	}
	return out
}

// kept is the position of the eldest record that P6.2 keeps; of none: Next.
func (m *model) kept() int64 {
	room, out := 200*(m.segs-2), m.l.Next()
	for i := len(m.events) - 1; i >= 0; i-- {
		if room -= m.events[i].weight; room < 0 {
			break
		}
		if m.events[i].pos > 0 {
			out = m.events[i].pos
		}
	}
	return out
}

// check says that the youngest records are there that were appended and not lost, and of those at least what P6.2 keeps.
func (m *model) check() {
	m.t.Helper()
	got, all := told(m.t, m.l), m.alive()
	if len(got) > len(all) || !slices.Equal(got, all[len(all)-len(got):]) {
		m.t.Fatalf("P6.1: %d records are told that are not the last ones of %d", len(got), len(all))
	}
	kept, left := m.kept(), all[:len(all)-len(got)]
	if len(left) > 0 && left[len(left)-1].pos >= kept {
		m.t.Fatalf("P6.2: %d is gone: from %d on they are kept", left[len(left)-1].pos, kept)
	}
	m.was = got
}

// crash goes on behind a crash, and says that nothing is lost that was flushed.
func (m *model) crash(keep ...bool) {
	m.t.Helper()
	all, was := m.alive(), m.was
	m.d = m.d.Crash(keep...)
	m.open()
	got := told(m.t, m.l)
	for _, r := range got {
		if r.pos < m.first {
			m.t.Fatalf("P6.3: %d is there again: First was %d when it was flushed", r.pos, m.first)
		}
	}
	for _, r := range was {
		if r.pos <= m.flushed && !slices.Contains(got, r) {
			m.t.Fatalf("P6.3: %d was flushed, and is lost", r.pos)
		}
	}
	m.whole(got, all)
	last := m.flushed
	if len(got) > 0 {
		last = max(last, got[len(got)-1].pos)
	}
	for i := range m.events {
		m.events[i].lost = m.events[i].lost || m.events[i].pos > last
	}
	m.flushed, m.first = last, m.l.First()
	m.check()
}

// whole says that what is told was appended, and one behind the other.
func (m *model) whole(got, all []rec) {
	m.t.Helper()
	if len(got) == 0 {
		return
	}
	i := slices.Index(all, got[0])
	if i < 0 || len(got) > len(all)-i || !slices.Equal(got, all[i:i+len(got)]) {
		m.t.Fatalf("P6.3: %d records from %d on are told, which were not appended so", len(got), got[0].pos)
	}
}

// fork is the same log on a device of its own, so that each end of a story can be looked at; it is behind a crash.
func (m *model) fork(keep ...bool) *model {
	m.t.Helper()
	c := *m
	c.events = slices.Clone(m.events)
	c.crash(keep...)
	return &c
}

// choices calls see with each choice of n sectors that stay, or with some, if there are too many.
func choices(n int, see func(keep []bool)) {
	const most = 8
	keep := make([]bool, n)
	for c := range 1 << min(n, most) {
		for i := range keep {
			keep[i] = c>>(i%most)&1 != 0
		}
		see(keep)
	}
}
