package journal_test

import (
	"fmt"
	"math"
	"slices"
	"strings"
	"testing"

	"icehouse/api"
	"icehouse/dev"
	"icehouse/journal"
)

// badKeys are texts that may not be keys.
var badKeys = []string{"", strings.Repeat("k", 41), strings.Repeat("\x00", 300), strings.Repeat("k", 1<<16+1)}

// P10.1: fewer than 20 segments are ErrRange, and so is what is not there; and nothing beside it.
func TestOpenRange(t *testing.T) {
	for _, n := range []int{1, 159, 160, 161, 175, 1600, 2048} {
		d := dev.New(n)
		for _, segs := range []int{math.MinInt64, -1, 0, 1, 3, 19, 20, 21, 22, 200, 201, 1 << 61, math.MaxInt64} {
			last := n - segs*api.SegLen
			for _, from := range []int{math.MinInt64, -1, 0, 1, last - 1, last, last + 1, n, math.MaxInt64} {
				want := api.ErrRange
				if segs >= 20 && segs <= 200 && from >= 0 && from <= last {
					want = api.OK
				}
				if j, err := journal.Open(d, from, segs); err != want || (j != nil) != (want == api.OK) {
					t.Errorf("P10.1: Open(%d, %d) of %d sectors: %v, want %v", from, segs, n, err, want)
				}
			}
		}
	}
	if j, err := journal.Open(nil, 0, 20); j != nil || err != api.ErrRange {
		t.Errorf("P10.1: Open of no device: %v", err)
	}
}

// P10.1: each key has the next number, from 1 on, be it there already or not; of no keys Add tells Seq.
func TestAdd(t *testing.T) {
	m := newModel(t, 3, 20)
	m.add()
	for _, keys := range [][]string{{"a"}, {"b", "c"}, nil, {}, {"a", "a", "a"}, {"\x00", "\xff", "雪"}, {strings.Repeat("k", 40)}, {strings.Repeat("k", 39), "k"}, {"a"}} {
		m.add(keys...)
	}
	want := "[{1 a} {2 b} {3 c} {4 a} {5 a} {6 a} {7 \x00} {8 \xff} {9 雪}]"
	if all, ok := m.j.Since(0, 9); fmt.Sprint(all) != want || !ok {
		t.Errorf("P10.1: Since(0, 9): %v, %v, want %s", all, ok, want)
	}
	if m.j.Seq() != 13 || m.j.Base() != 0 {
		t.Errorf("P10.1: Seq %d, Base %d, want 13, 0", m.j.Seq(), m.j.Base())
	}
}

// P10.1: ErrForm, wherever in the list stands what may not be: nothing was added, nor written.
func TestAddForm(t *testing.T) {
	d := dev.New(160)
	j := open(t, d, 0, 20)
	for _, ahead := range [][]string{nil, {"a", "b"}} {
		j.Add(ahead...)
		want, calls := told(t, j), d.Calls()
		for _, bad := range badKeys {
			for _, keys := range [][]string{{bad}, {bad, "c"}, {"c", bad}, {"c", bad, "d"}, {bad, bad}} {
				if n, err := j.Add(keys...); n != 0 || err != api.ErrForm {
					t.Errorf("P10.1: Add(%.60q): %d, %v, want ErrForm", keys, n, err)
				}
				if got := told(t, j); !slices.Equal(got, want) || d.Calls() != calls {
					t.Errorf("P10.1: behind Add(%.60q): %v and %d calls, want %v and %d", keys, got, d.Calls(), want, calls)
				}
				if got := told(t, open(t, d.Crash(true, true), 0, 20)); !slices.Equal(got, want) {
					t.Errorf("P10.1: behind Add(%.60q) and Open: %v, want %v", keys, got, want)
				}
			}
		}
	}
}

// P10.1: the marks with numbers above seq, rising, at most n, for each seq that may be, and false for others.
func TestSince(t *testing.T) {
	for _, count := range []int{0, 1, 5, 400} {
		m := newModel(t, 0, 20)
		for k := range count {
			m.add(key(k, 20))
		}
		base, seq := m.j.Base(), m.j.Seq()
		if (base > 0) != (count == 400) {
			t.Fatalf("P10.1: Base %d of %d marks", base, count)
		}
		all := told(t, m.j)
		for from := base - 3; from <= seq+3; from++ {
			for _, n := range []int{math.MinInt64, -1, 0, 1, 2, 4, len(all) - 1, len(all), len(all) + 1, 1 << 40, math.MaxInt64} {
				var want []api.Mark
				ok := from >= base && from <= seq
				if ok {
					want = all[from-base:]
					want = want[:min(max(n, 0), len(want))]
				}
				if got, is := m.j.Since(from, n); !slices.Equal(got, want) || is != ok || !ok && got != nil {
					t.Fatalf("P10.1: Since(%d, %d) from %d to %d: %v, %v, want %v, %v", from, n, base, seq, got, is, want, ok)
				}
			}
		}
	}
}

// P10.1: the last 32 are kept, though keys are as long as they may be, numbers are great, and each Open counts as 4.
func TestKeep(t *testing.T) {
	t.Parallel()
	for _, segs := range []int{20, 21} {
		for _, size := range []int{1, 5, 20, 39, 40} {
			for _, every := range []int{1, 2, 3, 7, 8, 9, 31, 1000} {
				m := newModel(t, 1, segs)
				for k := range 260 {
					m.add(key(k, size))
					if k%every == every-1 {
						m.crash()
					}
				}
			}
		}
	}
	d := logged(t, record(1<<39, "a"))
	j := open(t, d, 0, 20)
	for range 300 {
		if seq, err := j.Add(strings.Repeat("k", 40)); err != api.OK || seq-j.Base() < min(32, seq-1<<39+1) {
			t.Fatalf("P10.1: %d, %v; Base %d", seq, err, j.Base())
		}
	}
}

// P10.1: Opens in a row count, too: behind 7 of them 4 marks are kept, behind 6 of them 8.
func TestOpensInARow(t *testing.T) {
	t.Parallel()
	for opens := range 30 {
		m := newModel(t, 0, 20)
		for k := range 80 {
			m.add(key(k, 40), key(k, 1))
			if k%10 == 3 {
				for range opens {
					m.crash()
				}
			}
		}
	}
}

// P10.1: Opens alone let nothing go, however many there are.
func TestOpens(t *testing.T) {
	m := newModel(t, 0, 20)
	m.add("a", "b", "c")
	for range 60 {
		m.crash()
		if m.j.Base() != 0 || m.j.Seq() != 3 {
			t.Fatalf("P10.1: Base %d, Seq %d behind an Open", m.j.Base(), m.j.Seq())
		}
	}
}

// P10.1: what goes are the eldest, when their room is needed; with more segments more are kept.
func TestBase(t *testing.T) {
	base := map[int]int64{}
	for _, segs := range []int{20, 40, 200} {
		m := newModel(t, 0, segs)
		for k := range 300 {
			m.add(key(k, 40))
		}
		base[segs] = m.j.Base()
	}
	if base[20] == 0 || base[40] >= base[20] || base[200] != 0 {
		t.Errorf("P10.1: Base of 300 marks: %v", base)
	}
}

// P10.2: a nil *Journal, and one that Open did not make, whatever it is told.
func TestNil(t *testing.T) {
	for _, j := range []*journal.Journal{nil, {}} {
		for _, keys := range [][]string{nil, {"a"}, {""}, {"a", strings.Repeat("k", 41)}} {
			if n, err := j.Add(keys...); n != 0 || err != api.ErrDown {
				t.Errorf("P10.2: Add(%q) of a nil *Journal: %d, %v", keys, n, err)
			}
		}
		if j.Seq() != 0 || j.Base() != 0 {
			t.Errorf("P10.2: a nil *Journal: Seq %d, Base %d", j.Seq(), j.Base())
		}
		for _, seq := range []int64{math.MinInt64, -1, 0, 1, math.MaxInt64} {
			if l, ok := j.Since(seq, 1); l != nil || ok {
				t.Errorf("P10.2: Since(%d) of a nil *Journal: %v, %v", seq, l, ok)
			}
		}
	}
}

// P10.1: the sectors beside its own are not touched, whatever they hold.
func TestOwnSectors(t *testing.T) {
	const from, segs = 5, 20
	d := dev.New(from + segs*api.SegLen + 6)
	mark := strings.Repeat("\xee", api.Sector)
	for i := range d.Len() {
		d.Write(i, []byte(mark))
	}
	d.Flush()
	j := open(t, d, from, segs)
	if len(told(t, j)) != 0 || j.Seq() != 0 {
		t.Errorf("P10.1: on a device of no log: Seq %d", j.Seq())
	}
	for k := range 300 {
		j.Add(key(k, 30), key(k, 40))
	}
	for i := range d.Len() {
		if b, _ := d.Read(i); (i < from || i >= from+segs*api.SegLen) && string(b) != mark {
			t.Errorf("P10.1: the sector %d was written", i)
		}
	}
}

// P0.1, P10.1: more keys in one list than are kept.
func TestLongLists(t *testing.T) {
	m := newModel(t, 0, 20)
	keys := make([]string, 3000)
	for k := range keys {
		keys[k] = key(k, 1+k%40)
	}
	m.add("a")
	m.add(keys...)
	m.crash()
	m.add(keys[:33]...)
	if m.j.Base() == 0 {
		t.Error("P10.1: all are kept, though there is no room for them")
	}
}

// P0.3: what is answered is new memory, and what is handed in is neither changed nor kept.
func TestNewMemory(t *testing.T) {
	j := open(t, dev.New(160), 0, 20)
	room := []string{"a", "b", "", "y"}
	if n, err := j.Add(room[:2]...); n != 2 || err != api.OK || !slices.Equal(room, []string{"a", "b", "", "y"}) {
		t.Errorf("P0.3: Add changed its list: %d, %v, %q", n, err, room)
	}
	clear(room)
	want := []api.Mark{{Seq: 1, Key: "a"}, {Seq: 2, Key: "b"}}
	one, _ := j.Since(0, 9)
	two, _ := j.Since(0, 1)
	three, _ := j.Since(0, 9)
	clear(one[:cap(one)])
	clear(two[:cap(two)])
	if got := told(t, j); !slices.Equal(got, want) || !slices.Equal(three, want) {
		t.Errorf("P0.3: an answer shares memory: %v, %v, want %v", got, three, want)
	}
}

// P0.5: two journals that are told the same answer the same, whatever is asked in between; asking writes nothing.
func TestSameAnswers(t *testing.T) {
	d, e := dev.New(160), dev.New(170)
	j, other := open(t, d, 0, 20), open(t, e, 9, 20)
	for k := range 400 {
		keys := []string{key(k, k%40), key(k*7, 3)}[:k%3]
		if n, err := j.Add(keys...); err != api.OK {
			t.Fatalf("P10.1: Add: %d, %v", n, err)
		}
		other.Add(keys...)
		calls := d.Calls()
		if one := told(t, j); k%9 == 0 && !slices.Equal(one, told(t, other)) {
			t.Fatalf("P0.5: %v and %v", one, told(t, other))
		}
		if d.Calls() != calls || e.Calls() != calls {
			t.Fatalf("P0.5: %d and %d calls, ahead of asking %d", d.Calls(), e.Calls(), calls)
		}
	}
}
