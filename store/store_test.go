package store_test

import (
	"bytes"
	"fmt"
	"math"
	"slices"
	"strings"
	"testing"

	"icehouse/api"
	"icehouse/dev"
	"icehouse/flash"
	"icehouse/journal"
	"icehouse/meta"
	"icehouse/store"
	"icehouse/super"
)

const edge = 1 << 40

// badKeys are texts that may not be keys.
var badKeys = []string{"", strings.Repeat("k", 41), strings.Repeat("\x00", 300), strings.Repeat("k", 1<<16)}

// segments are those of the cache of a device of n sectors, counted one by one.
func segments(n int) int {
	segs := 0
	for at := 2 + 20*8; at+8 <= n && segs < 200; at += 8 {
		segs++
	}
	return segs
}

// filled is a device whose sectors are all full of c, and last.
func filled(n int, c byte) *dev.Dev {
	d := dev.New(n)
	for i := range n {
		d.Write(i, bytes.Repeat([]byte{c}, api.Sector))
	}
	d.Flush()
	return d
}

// contents are the sectors as they are now.
func contents(d *dev.Dev) []string {
	var out []string
	for i := range d.Len() {
		b, _ := d.Read(i)
		out = append(out, string(b))
	}
	return out
}

func made(t *testing.T, d *dev.Dev) *store.Store {
	t.Helper()
	s, err := store.Make(d)
	if s == nil || err != api.OK || len(d.Loose()) != 0 {
		t.Fatalf("P21.1: Make on %d sectors: %v, loose: %v", d.Len(), err, d.Loose())
	}
	return s
}

func opened(t *testing.T, d *dev.Dev) *store.Store {
	t.Helper()
	s, err := store.Open(d)
	if s == nil || err != api.OK || len(d.Loose()) != 0 {
		t.Fatalf("P21.1: Open of %d sectors: %v, loose: %v", d.Len(), err, d.Loose())
	}
	return s
}

// told is all that a store tells.
type told struct {
	items []api.Item
	keys  []string
	marks []api.Mark
	seq   int64
	base  int64
	meta  api.Meta
}

func (a told) is(b told) bool {
	return slices.Equal(a.items, b.items) && slices.Equal(a.keys, b.keys) && slices.Equal(a.marks, b.marks) && a.seq == b.seq && a.base == b.base && a.meta == b.meta
}

// all is told by s; s holds to the parts of which its methods are.
func all(t *testing.T, s *store.Store) told {
	t.Helper()
	marks, ok := s.Since(s.Base(), math.MaxInt)
	if !ok {
		t.Fatalf("P21.1: Since(%d) of Seq %d is false", s.Base(), s.Seq())
	}
	return told{s.Between(0, math.MaxUint64, "", math.MaxInt), s.Keys(), marks, s.Seq(), s.Base(), s.Meta()}
}

// parts is what the device's parts tell, each opened alone where the chapter has it, as all that is written were to last.
func parts(t *testing.T, d *dev.Dev) told {
	t.Helper()
	d = d.Crash(slices.Repeat([]bool{true}, d.Len())...)
	k, err := meta.Open(d, 0)
	if err != api.OK {
		t.Fatalf("P21.1: no meta at 0: %v", err)
	}
	j, err := journal.Open(d, 2, 20)
	if err != api.OK {
		t.Fatalf("P21.1: no journal at 2: %v", err)
	}
	c, err := flash.Open(d, 162, segments(d.Len()))
	if err != api.OK {
		t.Fatalf("P21.1: no cache at 162: %v", err)
	}
	return all(t, &store.Store{Cache: c, Journal: j, Keeper: k})
}

// empty is what a store tells that was started boot times, and has nothing.
func empty(boot int64) told { return told{meta: api.Meta{Boot: boot}} }

// fill puts, kills and saves more than there is room for.
func fill(t *testing.T, s *store.Store, n int) {
	t.Helper()
	for k := range n {
		if err := s.Put(api.Item{Key: fmt.Sprint("key ", k), Val: strings.Repeat("v", 200)}); err != api.OK {
			t.Fatalf("P21.1: Put: %v", err)
		}
		if _, err := s.Kill(fmt.Sprint("key ", k-5), strings.Repeat("x", 40)); err != api.OK {
			t.Fatalf("P21.1: Kill: %v", err)
		}
		if err := s.Save(api.Meta{Boot: s.Started(), Epoch: s.Meta().Epoch + 1}); err != api.OK {
			t.Fatalf("P21.1: Save: %v", err)
		}
	}
	s.Flush()
}

// P21.1: ErrRange of less than 192 sectors, be there a store or not, and nothing is written.
func TestRange(t *testing.T) {
	for _, n := range []int{1, 2, 3, 161, 162, 163, 170, 185, 186, 190, 191} {
		d := filled(n, 0xee)
		meta.Make(d, 0)
		want, calls := contents(d), d.Calls()
		if s, err := store.Make(d); s != nil || err != api.ErrRange {
			t.Errorf("P21.1: Make on %d sectors: %v", n, err)
		}
		if s, err := store.Open(d); s != nil || err != api.ErrRange {
			t.Errorf("P21.1: Open of %d sectors: %v", n, err)
		}
		if !slices.Equal(contents(d), want) || d.Calls() != calls {
			t.Errorf("P21.1: %d sectors: written", n)
		}
	}
	for _, n := range []int{192, 193, 199, 200, 2047, 2048} {
		d := dev.New(n)
		made(t, d)
		opened(t, d)
	}
	for _, d := range []*dev.Dev{nil, {}} {
		if s, err := store.Make(d); s != nil || err != api.ErrRange {
			t.Errorf("P21.1: Make on no device: %v", err)
		}
		if s, err := store.Open(d); s != nil || err != api.ErrRange {
			t.Errorf("P21.1: Open of no device: %v", err)
		}
	}
}

// P21.1: the parts lie where the chapter has them, take all of their sectors, and no others.
func TestPlaces(t *testing.T) {
	t.Parallel()
	for n, segs := range map[int]int{192: 3, 193: 3, 194: 4, 201: 4, 202: 5, 1753: 198, 1754: 199, 1761: 199, 1762: 200, 1763: 200, 1769: 200, 1770: 200, 2048: 200} {
		t.Run(fmt.Sprint(n), func(t *testing.T) {
			t.Parallel()
			if segments(n) != segs {
				t.Fatalf("the test has %d segments, want %d", segments(n), segs)
			}
			d := filled(n, 0xee)
			was := contents(d)
			s := made(t, d)
			for range 3 {
				fill(t, s, 250)
				if got, want := all(t, s), parts(t, d); !got.is(want) {
					t.Fatalf("P21.1: told %v, the parts %v", got, want)
				}
				d = d.Crash()
				s = opened(t, d)
			}
			end := 162 + segs*8
			blank := string(make([]byte, api.Sector))
			for i, sector := range contents(d) {
				inside := i < end
				if inside && sector == was[i] || !inside && sector != was[i] {
					t.Errorf("P21.1: the sector %d of %d: %q", i, n, sector)
				}
				if first := i >= 162 && (i-162)%8 == 0 || i >= 2 && i < 162 && (i-2)%8 == 0; inside && first && sector == blank {
					t.Errorf("P21.1: the segment at %d of %d was never used", i, n)
				}
			}
		})
	}
}

// P21.1: what Make makes is empty, and started once, whatever the device had; and none of that comes back.
func TestMake(t *testing.T) {
	t.Parallel()
	had := map[string]func() *dev.Dev{
		"nothing": func() *dev.Dev { return dev.New(240) },
		"ones":    func() *dev.Dev { return filled(240, 0xff) },
		"a store": func() *dev.Dev {
			d := dev.New(240)
			fill(t, made(t, d), 90)
			return d
		},
		"a short store": func() *dev.Dev {
			d := dev.New(240)
			fill(t, made(t, d), 1)
			return d
		},
		"a store of many starts": func() *dev.Dev {
			d := dev.New(240)
			made(t, d)
			for range 30 {
				fill(t, opened(t, d), 9)
			}
			return d
		},
		"a store that is loose": func() *dev.Dev {
			d := dev.New(240)
			s := made(t, d)
			fill(t, s, 20)
			for k := range 4 {
				s.Put(api.Item{Key: fmt.Sprint("loose ", k), Val: "v"})
			}
			return d
		},
		"other parts": func() *dev.Dev {
			d := dev.New(240)
			meta.Make(d, 1)
			c, _ := flash.Open(d, 2, 29)
			for k := range 99 {
				c.Put(api.Item{Key: fmt.Sprint(k), Val: strings.Repeat("v", 90)})
			}
			return d
		},
	}
	for name, device := range had {
		d := device()
		s := made(t, d)
		if got := all(t, s); !got.is(empty(1)) || s.Started() != 1 || !parts(t, d).is(empty(1)) {
			t.Errorf("P21.1: Make over %s: %v, started %d", name, got, s.Started())
		}
		fresh := dev.New(240)
		made(t, fresh)
		if end := 162 + 8*segments(240); !slices.Equal(contents(d)[:end], contents(fresh)[:end]) {
			t.Errorf("P21.1: Make over %s left some of it", name)
		}
		want := empty(1)
		for k := range 40 {
			x := api.Item{Key: fmt.Sprint("new ", 10+k), Val: "v"}
			s.Put(x)
			s.Kill("none")
			want.items, want.keys = append(want.items, x), append(want.keys, x.Key)
			want.marks = append(want.marks, api.Mark{Seq: int64(k + 1), Key: "none"})
			if k%10 == 9 {
				s.Wipe()
				want.items, want.keys = nil, nil
			}
			if k%3 == 2 {
				d = d.Crash()
				s = opened(t, d)
				want.meta.Boot++
			}
			want.seq = int64(k + 1)
			got := all(t, s)
			want.base, want.marks = got.base, want.marks[len(want.marks)-len(got.marks):]
			if !got.is(want) || got.base > 0 && got.seq-got.base < 16 {
				t.Fatalf("P21.1: Make over %s, and %d more: %v, want %v", name, k+1, got, want)
			}
		}
	}
}

// P21.1: Make writes over what is there alone: two devices have nothing to do with each other.
func TestApart(t *testing.T) {
	d, e := dev.New(200), dev.New(200)
	s, other := made(t, d), made(t, e)
	s.Put(api.Item{Key: "a", Val: "v"})
	s.Kill("b")
	s.Save(api.Meta{Boot: 1, Epoch: 3})
	if got := all(t, other); !got.is(empty(1)) {
		t.Errorf("P21.1: another device's: %v", got)
	}
	other.Kill("a")
	made(t, e)
	want := told{[]api.Item{{Key: "a", Val: "v"}}, []string{"a"}, []api.Mark{{Seq: 1, Key: "b"}}, 1, 0, api.Meta{Boot: 1, Epoch: 3}}
	if got := all(t, s); !got.is(want) || !parts(t, d).is(want) {
		t.Errorf("P21.1: %v, want %v", got, want)
	}
}

// P21.1: Open's Boot is one more, saved: each start has another one, though the next crash comes at once; the rest of the Meta stays.
func TestBoot(t *testing.T) {
	for _, m := range []api.Meta{{}, {Epoch: 7}, {Epoch: 7, Ready: 8}, {Epoch: 7, Ready: edge, Frozen: true}, {Epoch: edge}} {
		for _, boot := range []int64{1, 2, 1 << 20, edge - 9} {
			d := dev.New(192)
			m.Boot = boot
			if err := made(t, d).Save(m); err != api.OK {
				t.Fatalf("P21.1: Save(%v): %v", m, err)
			}
			for k := range int64(9) {
				if k%3 != 2 {
					d = d.Crash()
				}
				s := opened(t, d)
				m.Boot++
				if s.Started() != m.Boot || s.Meta() != m || m.Boot != boot+k+1 {
					t.Fatalf("P21.1: Open: started %d, %v, want %v", s.Started(), s.Meta(), m)
				}
				if k, err := meta.Open(d.Crash(), 0); err != api.OK || k.Meta() != m {
					t.Fatalf("P21.1: Open saved %v, %v, want %v", k.Meta(), err, m)
				}
			}
		}
	}
}

// P21.1: Started tells the Boot that Make or Open saved, also behind a Save of another one.
func TestStarted(t *testing.T) {
	d := dev.New(192)
	s := made(t, d)
	for _, boot := range []int64{1, 5, 6, 1 << 30} {
		was := s.Started()
		for _, m := range []api.Meta{{Boot: boot}, {Boot: boot, Epoch: boot}, {Boot: boot, Epoch: boot, Ready: boot + 1, Frozen: true}, {Boot: boot - 1}, {Boot: -1}} {
			s.Save(m)
			s.Kill("a")
			s.Wipe()
			if s.Started() != was {
				t.Errorf("P21.1: Started %d behind Save(%v), want %d", s.Started(), m, was)
			}
		}
		if s = opened(t, d); s.Started() != boot+1 {
			t.Errorf("P21.1: Open behind the Boot %d: started %d", boot, s.Started())
		}
	}
}

// P21.1: where there is no Boot that is one more, there is no store, and nothing is written.
func TestLastBoot(t *testing.T) {
	d := dev.New(192)
	s := made(t, d)
	s.Kill("a")
	s.Save(api.Meta{Boot: edge - 1})
	if s = opened(t, d); s.Started() != edge {
		t.Errorf("P21.1: started %d", s.Started())
	}
	want, calls := contents(d), d.Calls()
	if s, err := store.Open(d); s != nil || err != api.ErrForm {
		t.Errorf("P21.1: Open behind the last Boot: %v", err)
	}
	if !slices.Equal(contents(d), want) || d.Calls() != calls {
		t.Error("P21.1: Open behind the last Boot wrote")
	}
	if got := all(t, made(t, d)); !got.is(empty(1)) {
		t.Errorf("P21.1: made anew: %v", got)
	}
}

// P21.1: ErrCorrupt, where meta has it, and nothing is written, though the other parts are whole.
func TestCorrupt(t *testing.T) {
	spoil := map[string]func(d *dev.Dev){
		"both slots":    func(d *dev.Dev) { d.Write(0, []byte("x")); d.Write(1, []byte("x")) },
		"blank slots":   func(d *dev.Dev) { d.Write(0, make([]byte, 64)); d.Write(1, make([]byte, 64)) },
		"another text":  func(d *dev.Dev) { super.Make(d, 0, []byte("another text")) },
		"no text":       func(d *dev.Dev) { super.Make(d, 0, nil) },
		"another store": func(d *dev.Dev) { b, _ := d.Read(2); d.Write(0, b); d.Write(1, b) },
	}
	for name, by := range spoil {
		d := dev.New(200)
		s := made(t, d)
		fill(t, s, 5)
		by(d)
		d.Flush()
		want, calls := contents(d), d.Calls()
		if s, err := store.Open(d); s != nil || err != api.ErrCorrupt {
			t.Errorf("P21.1: Open of %s: %v, want ErrCorrupt", name, err)
		}
		if !slices.Equal(contents(d), want) || d.Calls() != calls {
			t.Errorf("P21.1: Open of %s wrote", name)
		}
	}
	for _, d := range []*dev.Dev{dev.New(192), dev.New(2048), filled(192, 0xff), filled(500, 'x')} {
		if s, err := store.Open(d); s != nil || err != api.ErrCorrupt {
			t.Errorf("P21.1: Open of no store: %v, want ErrCorrupt", err)
		}
	}
}

// P21.1: one slot that is spoiled hinders nothing; of the other parts, what is spoiled there is not there.
func TestHalfCorrupt(t *testing.T) {
	for slot := range 2 {
		d := dev.New(200)
		s := made(t, d)
		s.Kill("a", "b")
		s.Put(api.Item{Key: "c"})
		s.Save(api.Meta{Boot: 1, Epoch: 1})
		d.Write(slot, []byte("x"))
		if s := opened(t, d); s.Seq() != 2 || len(s.Keys()) != 1 || s.Meta().Boot != s.Started() {
			t.Errorf("P21.1: without the slot %d: %v", slot, all(t, s))
		}
	}
	d := dev.New(200)
	made(t, d)
	for i := 2; i < 200; i++ {
		d.Write(i, bytes.Repeat([]byte{byte(i)}, 64))
	}
	if got := all(t, opened(t, d)); !got.is(empty(2)) {
		t.Errorf("P21.1: of spoiled logs: %v", got)
	}
}
