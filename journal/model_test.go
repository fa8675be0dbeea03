package journal_test

import (
	"math"
	"math/rand/v2"
	"slices"
	"strconv"
	"strings"
	"testing"

	"icehouse/api"
	"icehouse/dev"
	"icehouse/journal"
	"icehouse/num"
	"icehouse/slog"
)

func open(t *testing.T, d *dev.Dev, from, segs int) *journal.Journal {
	t.Helper()
	calls, loose := d.Calls(), d.Loose()
	j, err := journal.Open(d, from, segs)
	if err != api.OK {
		t.Fatalf("P10.1: Open(%d, %d) of %d sectors: %v", from, segs, d.Len(), err)
	}
	if d.Calls() != calls || !slices.Equal(d.Loose(), loose) {
		t.Fatalf("P10.1: Open(%d, %d) wrote", from, segs)
	}
	return j
}

// record is how a mark lies in the log.
func record(seq int64, key string) []byte { return num.PutText(num.Put(nil, seq), key) }

// logged is a device on which a log has been told those bodies, all of which last.
func logged(t *testing.T, bodies ...[]byte) *dev.Dev {
	t.Helper()
	d := dev.New(160)
	l, err := slog.Open(d, 0, 20)
	if err != api.OK {
		t.Fatalf("P6.1: Open: %v", err)
	}
	for _, body := range bodies {
		if _, err := l.Append(body); err != api.OK {
			t.Fatalf("P6.1: Append(%x): %v", body, err)
		}
	}
	l.Flush()
	return d
}

// told are all marks that are kept, which begin behind Base and end with Seq, one number behind the other.
func told(t *testing.T, j *journal.Journal) []api.Mark {
	t.Helper()
	base, seq := j.Base(), j.Seq()
	all, ok := j.Since(base, math.MaxInt)
	if !ok || base < 0 || int64(len(all)) != seq-base {
		t.Fatalf("P10.1: Base %d, Seq %d, but %d marks, %v", base, seq, len(all), ok)
	}
	for i, m := range all {
		if m.Seq != base+1+int64(i) || len(m.Key) < 1 || len(m.Key) > api.MaxKey {
			t.Fatalf("P10.1: the mark %d behind %d is %v", i, base, m)
		}
	}
	for _, n := range []int64{math.MinInt64, -1, base - 1, seq + 1, math.MaxInt64} {
		if l, ok := j.Since(n, 9); (n < base || n > seq) && (l != nil || ok) {
			t.Fatalf("P10.1: Since(%d) from %d to %d: %v, %v", n, base, seq, l, ok)
		}
	}
	return all
}

// opened stands in a model's story for an Open.
const opened = -1

// model is a journal, and what it was told.
type model struct {
	t     *testing.T
	d     *dev.Dev
	from  int
	segs  int
	j     *journal.Journal
	keys  []string // of all numbers, from 1 on
	story []int64  // numbers, and Opens
	base  int64
}

func newModel(t *testing.T, from, segs int) *model {
	t.Helper()
	m := &model{t: t, d: dev.New(from + segs*api.SegLen), from: from, segs: segs}
	m.open()
	return m
}

func (m *model) open() {
	m.t.Helper()
	m.j = open(m.t, m.d, m.from, m.segs)
	m.story = append(m.story, opened)
	m.check()
}

// crash goes on behind a crash: all is there, whatever stays of what is loose.
func (m *model) crash(keep ...bool) {
	m.t.Helper()
	m.d = m.d.Crash(keep...)
	m.open()
}

func (m *model) add(keys ...string) {
	m.t.Helper()
	seq, err := m.j.Add(keys...)
	for _, key := range keys {
		m.keys = append(m.keys, key)
		m.story = append(m.story, int64(len(m.keys)))
	}
	if seq != int64(len(m.keys)) || err != api.OK || len(m.d.Loose()) != 0 {
		m.t.Fatalf("P10.1: Add(%.200q): %d, %v, want %d; loose: %v", keys, seq, err, len(m.keys), m.d.Loose())
	}
	m.check()
}

// kept is the number ahead of those that must be kept.
func (m *model) kept() int64 {
	out, room := int64(len(m.keys)), api.Keep
	for _, n := range slices.Backward(m.story) {
		cost := 1
		if n == opened {
			cost = 4
		}
		if room -= cost; room < 0 {
			break
		}
		if n != opened {
			out = n - 1
		}
	}
	return out
}

// check says that the last marks are there, as many as must be kept, with their numbers; and that none comes back that was gone.
func (m *model) check() {
	m.t.Helper()
	all, base := told(m.t, m.j), m.j.Base()
	if m.j.Seq() != int64(len(m.keys)) {
		m.t.Fatalf("P10.1: Seq %d, want %d", m.j.Seq(), len(m.keys))
	}
	if base > m.kept() || base < m.base {
		m.t.Fatalf("P10.1: Base %d of %d, was %d, want at most %d", base, len(m.keys), m.base, m.kept())
	}
	m.base = base
	for _, x := range all {
		if x.Key != m.keys[x.Seq-1] {
			m.t.Fatalf("P10.1: the mark %d is %q, want %q", x.Seq, x.Key, m.keys[x.Seq-1])
		}
	}
}

// key is the k-th one of some length; those of other numbers differ, where the length lets them.
func key(k, size int) string {
	s := strconv.Itoa(k)
	return (s + strings.Repeat("-", max(0, size-len(s))))[:max(size, 1)]
}

// choices calls see with each choice of n sectors that stay, or with some, if there are too many.
func choices(n int, see func(keep []bool)) {
	const most = 8
	keep := make([]bool, n)
	for c := range 1 << min(n, most) {
		for i := range keep {
			keep[i] = c>>(i%most)&1 != 0
		}
		see(keep)
	}
}

// P10.1, P10.2: long walks, with crashes, Opens, and lists of keys of all lengths.
func TestWalks(t *testing.T) {
	t.Parallel()
	for seed := range uint64(60) {
		r := rand.New(rand.NewPCG(seed, 10))
		m := newModel(t, r.IntN(5), 20+r.IntN(4))
		opens, most, longest := 1+r.IntN(20), 1+r.IntN(6), 1+r.IntN(40)
		for range 250 {
			switch k := r.IntN(100); {
			case k < opens:
				m.crash(true, false, true)
			case k < opens+3:
				m.open()
			default:
				keys := make([]string, r.IntN(most+1))
				for i := range keys {
					keys[i] = key(r.IntN(1000), 1+r.IntN(longest))
				}
				m.add(keys...)
			}
		}
	}
}
