package journal_test

import (
	"math"
	"math/rand/v2"
	"slices"
	"strings"
	"testing"

	"icehouse/api"
	"icehouse/dev"
	"icehouse/slog"
)

// P10.2: behind each Add all is there at once, and behind the next crash and Add too.
func TestLasts(t *testing.T) {
	t.Parallel()
	for _, size := range []int{1, 12, 40} {
		for _, many := range []int{1, 2, 9, 40} {
			m := newModel(t, 2, 20)
			for k := range 60 {
				keys := make([]string, many)
				for i := range keys {
					keys[i] = key(k*many+i, size)
				}
				m.add(keys...)
				f := *m
				f.keys, f.story = slices.Clone(m.keys), slices.Clone(m.story)
				f.crash()
				f.add("again")
				f.crash()
			}
		}
	}
}

// P10.2: an Add that a crash cuts off, whatever of its loose sectors stays: all that came back ahead of it is there, of its own marks the first ones, and the next Add goes on behind them.
func TestUnderWay(t *testing.T) {
	t.Parallel()
	for _, size := range []int{1, 20, 40} {
		for _, ahead := range []int{0, 1, 7, 40, 161} {
			for _, many := range []int{1, 2, 3, 8, 20} {
				d := dev.New(160)
				l, _ := slog.Open(d, 0, 20)
				for k := range ahead + many {
					if k == ahead {
						l.Flush()
					}
					l.Append(record(int64(k+1), key(k, size)))
				}
				choices(len(d.Loose()), func(keep []bool) { goesOn(t, d.Crash(keep...), ahead, many, size) })
			}
		}
	}
}

// goesOn says so of a device that was told ahead marks, which last, and many more.
func goesOn(t *testing.T, d *dev.Dev, ahead, many, size int) {
	t.Helper()
	j := open(t, d, 0, 20)
	seq := j.Seq()
	if seq < int64(ahead) || seq > int64(ahead+many) {
		t.Fatalf("P10.2: Seq %d behind a crash, %d were flushed, %d added", seq, ahead, ahead+many)
	}
	was := told(t, j)
	for _, x := range was {
		if x.Key != key(int(x.Seq-1), size) {
			t.Fatalf("P10.2: the mark %d is %q behind a crash", x.Seq, x.Key)
		}
	}
	if n, err := j.Add("x", "y"); n != seq+2 || err != api.OK {
		t.Fatalf("P10.1: Add behind a crash: %d, %v, want %d", n, err, seq+2)
	}
	want := append(was, api.Mark{Seq: seq + 1, Key: "x"}, api.Mark{Seq: seq + 2, Key: "y"})
	for _, got := range [][]api.Mark{told(t, j), told(t, open(t, d.Crash(), 0, 20))} {
		if len(got) == 0 || !slices.Equal(got, want[len(want)-len(got):]) {
			t.Fatalf("P10.2: %v, want the last ones of %v", got, want)
		}
	}
}

// P10.2: what is there of a cut-off Add behind a hole counts as never added, and gives way to what is added then, also when all ahead of it is gone.
func TestHole(t *testing.T) {
	a := api.Mark{Seq: 6, Key: "a"}
	for _, c := range []struct {
		has  []api.Mark
		want []api.Mark
	}{
		{[]api.Mark{a, {Seq: 8, Key: "lost"}}, []api.Mark{a}},
		{[]api.Mark{a, {Seq: 8, Key: "lost"}, {Seq: 9, Key: "lost"}, {Seq: 7, Key: "b"}}, []api.Mark{a, {Seq: 7, Key: "b"}}},
		{[]api.Mark{a, {Seq: 8, Key: "lost"}, {Seq: 7, Key: "b"}, {Seq: 8, Key: "c"}}, []api.Mark{a, {Seq: 7, Key: "b"}, {Seq: 8, Key: "c"}}},
		{[]api.Mark{{Seq: 8, Key: "lost"}, {Seq: 7, Key: "b"}, {Seq: 8, Key: "c"}}, []api.Mark{{Seq: 7, Key: "b"}, {Seq: 8, Key: "c"}}},
		{[]api.Mark{{Seq: 8, Key: "lost"}, {Seq: 9, Key: "lost"}, {Seq: 7, Key: "b"}}, []api.Mark{{Seq: 7, Key: "b"}}},
		{[]api.Mark{{Seq: 9, Key: "lost"}, {Seq: 11, Key: "lost"}, {Seq: 8, Key: "b"}}, []api.Mark{{Seq: 8, Key: "b"}}},
	} {
		var bodies [][]byte
		for _, x := range c.has {
			bodies = append(bodies, record(x.Seq, x.Key))
		}
		d := logged(t, bodies...)
		j := open(t, d, 0, 20)
		if got := told(t, j); !slices.Equal(got, c.want) {
			t.Errorf("P10.2: of %v: %v, want %v", c.has, got, c.want)
			continue
		}
		next := api.Mark{Seq: c.want[len(c.want)-1].Seq + 1, Key: "next"}
		want := append(slices.Clone(c.want), next)
		if n, err := j.Add("next"); n != next.Seq || err != api.OK {
			t.Errorf("P10.2: Add behind %v: %d, %v", c.has, n, err)
		}
		if got := told(t, open(t, d.Crash(), 0, 20)); !slices.Equal(got, want) {
			t.Errorf("P10.2: of %v and one more: %v, want %v", c.has, got, want)
		}
	}
}

// P10.2: the numbers go on, though all but the last marks are gone.
func TestNumbersGoOn(t *testing.T) {
	for _, seq := range []int64{1, 2, 63, 64, 1 << 31, 1<<40 - 2} {
		d := logged(t, record(seq, "a"))
		j := open(t, d, 0, 20)
		if j.Seq() != seq || j.Base() != seq-1 {
			t.Errorf("P10.2: Seq %d, Base %d, want %d, %d", j.Seq(), j.Base(), seq, seq-1)
		}
		if n, err := j.Add("b", "c"); n != seq+2 || err != api.OK {
			t.Errorf("P10.2: Add: %d, %v, want %d", n, err, seq+2)
		}
		want := []api.Mark{{Seq: seq, Key: "a"}, {Seq: seq + 1, Key: "b"}, {Seq: seq + 2, Key: "c"}}
		if got := told(t, open(t, d.Crash(), 0, 20)); !slices.Equal(got, want) {
			t.Errorf("P10.2: %v, want %v", got, want)
		}
	}
}

// strange are records that are no marks.
func strange() [][]byte {
	return [][]byte{
		{0}, {2}, {0x80}, {2, 2}, {0xff, 0xff, 0xff}, {2, 2, 'a', 0}, {2, 4, 'a'}, {0x82, 0, 2, 'a'}, {2, 0x82, 0, 'a'},
		record(0, "a"), record(-1, "a"), record(1<<40+1, "a"), record(math.MaxInt64, "a"), record(math.MinInt64, "a"),
		record(3, ""), record(3, strings.Repeat("k", 41)), record(3, strings.Repeat("k", 200)),
		append(record(3, "a"), record(4, "b")...), []byte(strings.Repeat("\xff", 300)),
	}
}

// P0.1: records that no journal wrote are as if they were not there, and stay no hindrance.
func TestStrangeRecords(t *testing.T) {
	for _, body := range strange() {
		if got := told(t, open(t, logged(t, body), 0, 20)); len(got) != 0 {
			t.Errorf("P10.1: of %x: %v", body, got)
		}
	}
	d := logged(t, append(append(strange(), record(1, "a")), strange()...)...)
	j := open(t, d, 0, 20)
	if n, err := j.Add("b"); n != 2 || err != api.OK {
		t.Errorf("P10.1: Add: %d, %v, want 2", n, err)
	}
	want := []api.Mark{{Seq: 1, Key: "a"}, {Seq: 2, Key: "b"}}
	for _, got := range [][]api.Mark{told(t, j), told(t, open(t, d.Crash(), 0, 20))} {
		if !slices.Equal(got, want) {
			t.Errorf("P10.2: among other records: %v, want %v", got, want)
		}
	}
}

// P0.1: marks in any order, among other records: what is told keeps together, and what is added goes on behind it.
func TestAnyRecords(t *testing.T) {
	t.Parallel()
	for seed := range uint64(300) {
		r := rand.New(rand.NewPCG(seed, 11))
		var bodies [][]byte
		for k := range r.IntN(60) {
			if x := strange(); r.IntN(5) == 0 {
				bodies = append(bodies, x[r.IntN(len(x))])
			} else {
				bodies = append(bodies, record(1+r.Int64N(6), key(k, 9)))
			}
		}
		d := logged(t, bodies...)
		j := open(t, d, 0, 20)
		told(t, j)
		for k := range 200 {
			seq := j.Seq()
			if n, err := j.Add(key(k, 35)); n != seq+1 || err != api.OK {
				t.Fatalf("P10.1: Add: %d, %v, want %d", n, err, seq+1)
			}
		}
		if got, want := told(t, open(t, d.Crash(), 0, 20)), told(t, j); !slices.Equal(got, want) {
			t.Fatalf("P10.2: behind a crash %v, ahead of it %v", got, want)
		}
	}
}

// P0.1: a device that was spoiled meanwhile: what can't be read any more is not told as if nothing were there.
func TestSpoiled(t *testing.T) {
	d := dev.New(160)
	j := open(t, d, 0, 20)
	j.Add("a", "b")
	for i := range d.Len() {
		d.Write(i, make([]byte, api.Sector))
	}
	if l, ok := j.Since(0, 9); l != nil || ok {
		t.Errorf("P10.1: Since of a spoiled device: %v, %v", l, ok)
	}
	if l, ok := j.Since(2, 9); len(l) != 0 || !ok {
		t.Errorf("P10.1: Since behind the last mark: %v, %v", l, ok)
	}
}
