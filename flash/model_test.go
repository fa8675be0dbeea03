package flash_test

import (
	"maps"
	"slices"
	"strconv"
	"strings"
	"testing"

	"icehouse/api"
	"icehouse/dev"
	"icehouse/flash"
	"icehouse/item"
	"icehouse/slog"
)

func open(t *testing.T, d *dev.Dev, from, segs int) *flash.Cache {
	t.Helper()
	calls, loose := d.Calls(), d.Loose()
	c, err := flash.Open(d, from, segs)
	if err != api.OK {
		t.Fatalf("P9.1: Open(%d, %d) of %d sectors: %v", from, segs, d.Len(), err)
	}
	if d.Calls() != calls || !slices.Equal(d.Loose(), loose) {
		t.Fatalf("P9.1: Open(%d, %d) wrote", from, segs)
	}
	return c
}

func sum(key, val string) api.Item { return api.Item{Key: key, Val: val} }

// told is what there is, over or not. Keys, Get and Between must tell the same.
func told(t *testing.T, c *flash.Cache) map[string]api.Item {
	t.Helper()
	keys := c.Keys()
	all := c.Between(0, 1<<64-1, "", len(keys)+1)
	if len(all) != len(keys) {
		t.Fatalf("P9.1: %d keys, but %d entries: %q, %v", len(keys), len(all), keys, all)
	}
	out := map[string]api.Item{}
	for i, x := range all {
		if x.Key != keys[i] || i > 0 && keys[i-1] >= x.Key || !item.May(x) || x.Gone {
			t.Fatalf("P9.1: entry %d is %v; the keys are %q", i, x, keys)
		}
		if got, ok := c.Get(x.Key, -1); got != x || !ok {
			t.Fatalf("P9.1: Get(%q): %v, %v, want %v", x.Key, got, ok, x)
		}
		out[x.Key] = x
	}
	return out
}

// event is something that was appended to the log, or an Open, and what it counts at the most.
type event struct {
	x      api.Item
	weight int
}

// model is a cache, and what it was told. Each value is put once only, so that its record can be told from others.
type model struct {
	t       *testing.T
	d       *dev.Dev
	from    int
	segs    int
	c       *flash.Cache
	events  []event
	last    map[string]api.Item // as they were put last; without those that were taken away
	flushed map[string]api.Item // what was there when the last Flush, Drop or Wipe came back
	count   int
}

func newModel(t *testing.T, from, segs int) *model {
	t.Helper()
	m := &model{t: t, d: dev.New(from + segs*api.SegLen), from: from, segs: segs}
	m.open()
	return m
}

func (m *model) open() {
	m.t.Helper()
	m.c = open(m.t, m.d, m.from, m.segs)
	m.events = append(m.events, event{weight: 400})
	m.last = told(m.t, m.c)
	m.flushed = maps.Clone(m.last)
}

// put puts a value of its own, of so many bytes, if the number of the Put is not longer.
func (m *model) put(key string, size int) {
	m.t.Helper()
	m.count++
	val := strconv.Itoa(m.count) + " "
	x := api.Item{Key: key, Val: val + strings.Repeat("v", max(0, size-len(val))), End: int64(m.count % 3)}
	if err := m.c.Put(x); err != api.OK {
		m.t.Fatalf("P9.1: Put(%v): %v", x, err)
	}
	if got, ok := m.c.Get(key, -1); got != x || !ok {
		m.t.Fatalf("P9.1: Get behind Put(%v): %v, %v", x, got, ok)
	}
	m.events = append(m.events, event{x, item.Size(x) + 20 + 60})
	m.last[key] = x
	m.check()
}

func (m *model) drop(keys ...string) {
	m.t.Helper()
	if err := m.c.Drop(keys...); err != api.OK {
		m.t.Fatalf("P9.1: Drop(%q): %v", keys, err)
	}
	for _, key := range keys {
		m.events = append(m.events, event{weight: len(key) + 20 + 60})
		delete(m.last, key)
	}
	m.check()
	m.lasts("Drop")
}

func (m *model) wipe() {
	m.t.Helper()
	if err := m.c.Wipe(); err != api.OK || len(m.c.Keys()) != 0 {
		m.t.Fatalf("P9.1: Wipe: %v, %q", err, m.c.Keys())
	}
	m.events = append(m.events, event{weight: 20 + 60})
	clear(m.last)
	m.check()
	m.lasts("Wipe")
}

func (m *model) flush() {
	m.t.Helper()
	if err := m.c.Flush(); err != api.OK {
		m.t.Fatalf("P9.1: Flush: %v", err)
	}
	m.check()
	m.lasts("Flush")
}

// lasts says that nothing is loose.
func (m *model) lasts(name string) {
	m.t.Helper()
	if len(m.d.Loose()) != 0 {
		m.t.Fatalf("P9.1: behind %s %v is loose", name, m.d.Loose())
	}
	m.flushed = maps.Clone(m.last)
}

// records are the entries that the log has.
func (m *model) records() []api.Item {
	m.t.Helper()
	l, err := slog.Open(m.d, m.from, m.segs)
	if err != api.OK {
		m.t.Fatalf("P6.1: Open: %v", err)
	}
	var out []api.Item
	for _, r := range l.All() {
		if xs, err := item.Decode(r.Body); err == api.OK {
			out = append(out, xs...)
		}
	}
	return out
}

// kept are the entries that P6.2 keeps.
func (m *model) kept() []api.Item {
	var out []api.Item
	room := 200 * (m.segs - 2)
	for i := len(m.events) - 1; i >= 0; i-- {
		if room -= m.events[i].weight; room < 0 {
			break
		}
		out = append(out, m.events[i].x)
	}
	return out
}

// check says that what was put last is there just as long as its record is, and as long as P6.2 keeps it. What went by that is never to come back.
func (m *model) check() {
	m.t.Helper()
	got, records, kept := told(m.t, m.c), m.records(), m.kept()
	for key, x := range got {
		if m.last[key] != x {
			m.t.Fatalf("P9.1: %q is %v, but was put as %v", key, x, m.last[key])
		}
	}
	for key, x := range m.last {
		_, there := got[key]
		if there != slices.Contains(records, x) {
			m.t.Fatalf("P9.2: %v is there: %v; its record: %v", x, there, !there)
		}
		if !there && slices.Contains(kept, x) {
			m.t.Fatalf("P9.2: %v is gone, but kept by P6.2", x)
		}
	}
	m.last = got
}

// crash goes on behind a crash, and says what must be there, and what may be.
func (m *model) crash(keep ...bool) {
	m.t.Helper()
	last, flushed, records := m.last, m.flushed, m.records()
	m.d = m.d.Crash(keep...)
	m.open()
	for key, x := range m.last {
		if x != last[key] && x != flushed[key] {
			m.t.Fatalf("P9.3: %q is %v; it was put last as %v, flushed as %v", key, x, last[key], flushed[key])
		}
	}
	for key, x := range flushed {
		if _, there := m.last[key]; !there && slices.Contains(records, x) {
			m.t.Fatalf("P9.3: %v was flushed, and is lost", x)
		}
	}
	m.check()
}

// fork is the same cache on a device of its own, so that each end of a story can be looked at; it is behind a crash.
func (m *model) fork(keep ...bool) *model {
	m.t.Helper()
	c := *m
	c.events = slices.Clone(m.events)
	c.crash(keep...)
	return &c
}

// choices calls see with each choice of n sectors that stay, or with some, if there are too many.
func choices(n int, see func(keep []bool)) {
	const most = 6
	keep := make([]bool, n)
	for c := range 1 << min(n, most) {
		for i := range keep {
			keep[i] = c>>(i%most)&1 != 0
		}
		see(keep)
	}
}

// forks calls see with the model behind a crash, for each choice of what stays.
func (m *model) forks(see func(f *model)) {
	m.t.Helper()
	choices(len(m.d.Loose()), func(keep []bool) { see(m.fork(keep...)) })
}
