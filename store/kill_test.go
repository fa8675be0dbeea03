package store_test

import (
	"fmt"
	"math"
	"math/rand/v2"
	"slices"
	"strings"
	"testing"

	"icehouse/api"
	"icehouse/dev"
	"icehouse/store"
)

// P21.1: Kill by hand: keys that are there or not, told twice or not at all; its number, its marks, and what is left.
func TestKill(t *testing.T) {
	d := dev.New(400)
	s := made(t, d)
	long := strings.Repeat("k", 40)
	var marks []api.Mark
	for k, keys := range [][]string{nil, {}, {"b"}, {"q"}, {"a", "a"}, {"c", "q", "over", "c"}, {long}, {"\x00", "\xff", "雪"}, {"e", "d", "f", "a", "b", "c", long, "over"}, nil} {
		left := []string{"a", "b", "c", "d", "e", "f", long, "over"}
		for i, key := range left {
			s.Put(api.Item{Key: key, Val: fmt.Sprint(k), End: int64(i / 7)})
		}
		for _, key := range keys {
			marks = append(marks, api.Mark{Seq: int64(len(marks) + 1), Key: key})
			left = slices.DeleteFunc(left, func(x string) bool { return x == key })
		}
		n, err := s.Kill(keys...)
		if n != int64(len(marks)) || err != api.OK || len(d.Loose()) != 0 {
			t.Fatalf("P21.1: Kill(%q): %d, %v; loose: %v", keys, n, err, d.Loose())
		}
		for _, told := range []told{all(t, s), parts(t, d), all(t, opened(t, d.Crash()))} {
			if !slices.Equal(told.keys, left) || !slices.Equal(told.marks, marks) || told.seq != n {
				t.Fatalf("P21.1: behind Kill(%q): %v, want %q, %v", keys, told, left, marks)
			}
		}
	}
}

// P21.1: ErrForm, wherever in the list stands what may not be a key: nothing has changed, in no part.
func TestKillForm(t *testing.T) {
	d := dev.New(200)
	s := made(t, d)
	s.Put(api.Item{Key: "a"})
	s.Kill("x")
	s.Put(api.Item{Key: "b"})
	want, sectors, calls, loose := all(t, s), contents(d), d.Calls(), d.Loose()
	for _, bad := range badKeys {
		for _, keys := range [][]string{{bad}, {bad, "a"}, {"a", bad}, {"a", bad, "b"}, {"b", "a", "x", bad}, {bad, bad}} {
			if n, err := s.Kill(keys...); n != 0 || err != api.ErrForm {
				t.Errorf("P21.1: Kill(%.60q): %d, %v, want ErrForm", keys, n, err)
			}
			if got := all(t, s); !got.is(want) || !slices.Equal(contents(d), sectors) || d.Calls() != calls || !slices.Equal(d.Loose(), loose) {
				t.Fatalf("P21.1: behind Kill(%.60q): %v, want %v", keys, got, want)
			}
		}
	}
}

// P21.1: Kill makes all that was put ahead of it last, too, even Kill of no keys; what is put behind it is loose.
func TestKillFlushes(t *testing.T) {
	d := dev.New(200)
	s := made(t, d)
	for _, keys := range [][]string{nil, {"other"}, {"other", "more"}} {
		s.Put(api.Item{Key: "a", Val: fmt.Sprint(len(keys))})
		if len(d.Loose()) == 0 {
			t.Fatal("P21.1: Put flushed")
		}
		s.Kill(keys...)
		s.Put(api.Item{Key: "b"})
		if again := opened(t, d.Crash()); len(again.Keys()) != 1 {
			t.Errorf("P21.1: behind Kill(%q) and a crash: %q", keys, again.Keys())
		} else if x, ok := again.Get("a", 0); x.Val != fmt.Sprint(len(keys)) || !ok {
			t.Errorf("P21.1: behind Kill(%q) and a crash: %v, %v", keys, x, ok)
		}
		s.Flush()
		s.Kill("b")
	}
}

// P21.1: what a Kill took away stays away while both logs go round, behind each crash, unless it is put again.
func TestStaysAway(t *testing.T) {
	t.Parallel()
	for _, ahead := range []int{0, 1, 4} {
		d := dev.New(192)
		s := made(t, d)
		for k := range ahead {
			s.Put(api.Item{Key: fmt.Sprint("a", k), Val: strings.Repeat("v", 60)})
		}
		s.Put(api.Item{Key: "x", Val: strings.Repeat("v", 90)})
		s.Flush()
		s.Kill("x")
		for k := range 40 {
			s.Put(api.Item{Key: fmt.Sprint("b", k), Val: strings.Repeat("v", k*17%200)})
			if k%5 == 4 {
				s.Kill("y")
			}
			choices(len(d.Loose()), func(keep []bool) {
				again := opened(t, d.Crash(keep...))
				if slices.Contains(again.Keys(), "x") {
					t.Fatal("P21.1: x is there again")
				}
				if l, ok := again.Since(again.Base(), 1); ok && again.Base() == 0 && l[0].Key != "x" {
					t.Fatalf("P21.1: the first mark is %v", l)
				}
			})
		}
		s.Put(api.Item{Key: "x", Val: "again"})
		if x, ok := s.Get("x", 0); x.Val != "again" || !ok {
			t.Errorf("P21.1: x was put again: %v, %v", x, ok)
		}
	}
}

// choices calls see with choices of n sectors that stay.
func choices(n int, see func(keep []bool)) {
	const most = 4
	keep := make([]bool, n)
	for c := range 1 << min(n, most) {
		for i := range keep {
			keep[i] = c>>(i%most)&1 != 0
		}
		see(keep)
	}
}

// P21.1: more keys in one list than either log keeps.
func TestKillLong(t *testing.T) {
	d := dev.New(192)
	s := made(t, d)
	keys := make([]string, 2000)
	for k := range keys {
		keys[k] = fmt.Sprint("key ", k)
	}
	s.Put(api.Item{Key: "key 0"})
	s.Put(api.Item{Key: "key 1999"})
	if n, err := s.Kill(keys...); n != 2000 || err != api.OK || len(s.Keys()) != 0 || s.Base() == 0 {
		t.Errorf("P21.1: Kill of 2000: %d, %v, %q, Base %d", n, err, s.Keys(), s.Base())
	}
	again := opened(t, d.Crash())
	if l, ok := again.Since(1984, 99); !ok || len(l) != 16 || l[15] != (api.Mark{Seq: 2000, Key: "key 1999"}) || len(again.Keys()) != 0 {
		t.Errorf("P21.1: behind Kill of 2000: %v, %v, %q", l, ok, again.Keys())
	}
}

// cacheFace, journalFace and keeperFace are the methods that a Store has of its parts.
type cacheFace interface {
	Put(x api.Item) api.Errno
	Get(key string, now int64) (api.Item, bool)
	Drop(keys ...string) api.Errno
	Flush() api.Errno
	Keys() []string
	Wipe() api.Errno
	Between(from, to uint64, after string, n int) []api.Item
}

type journalFace interface {
	Add(keys ...string) (int64, api.Errno)
	Seq() int64
	Base() int64
	Since(seq int64, n int) ([]api.Mark, bool)
}

type keeperFace interface {
	Meta() api.Meta
	Save(m api.Meta) api.Errno
}

// P21.1: the parts' methods are the Store's own, and do what the parts alone do: what is told one is told by the other.
func TestPromoted(t *testing.T) {
	d := dev.New(300)
	s := made(t, d)
	for _, face := range []cacheFace{s, s.Cache} {
		s.Wipe()
		a, b := api.Item{Key: "a", Val: "1"}, api.Item{Key: "b", Val: "2", End: 9}
		if face.Put(a) != api.OK || face.Put(b) != api.OK || face.Put(api.Item{}) != api.ErrForm {
			t.Error("P21.1: Put")
		}
		for _, other := range []cacheFace{s, s.Cache} {
			x, ok := other.Get("b", 8)
			_, over := other.Get("b", 9)
			l := other.Between(0, math.MaxUint64, "a", 5)
			if x != b || !ok || over || !slices.Equal(other.Keys(), []string{"a", "b"}) || !slices.Equal(l, []api.Item{b}) {
				t.Errorf("P21.1: %v, %v, %v, %q, %v", x, ok, over, other.Keys(), l)
			}
		}
		if len(d.Loose()) == 0 || face.Flush() != api.OK || len(d.Loose()) != 0 {
			t.Error("P21.1: Flush")
		}
		if face.Drop("a") != api.OK || face.Drop("") != api.ErrForm || len(s.Keys()) != 1 || len(s.Cache.Keys()) != 1 || s.Seq() != 0 {
			t.Error("P21.1: Drop")
		}
		if face.Wipe() != api.OK || len(s.Keys()) != 0 || len(d.Loose()) != 0 {
			t.Error("P21.1: Wipe")
		}
	}
	s.Put(api.Item{Key: "a"})
	for k, face := range []journalFace{s, s.Journal} {
		n, err := face.Add("a", "c")
		if n != int64(2*k+2) || err != api.OK || s.Seq() != n || s.Journal.Seq() != n || face.Base() != 0 || len(s.Keys()) != 1 {
			t.Errorf("P21.1: Add: %d, %v, %q", n, err, s.Keys())
		}
		if l, ok := face.Since(n-1, 3); !ok || !slices.Equal(l, []api.Mark{{Seq: n, Key: "c"}}) {
			t.Errorf("P21.1: Since: %v, %v", l, ok)
		}
	}
	for k, face := range []keeperFace{s, s.Keeper} {
		m := api.Meta{Boot: 1, Epoch: int64(k + 1)}
		if face.Save(m) != api.OK || s.Meta() != m || s.Keeper.Meta() != m || face.Meta() != m || face.Save(api.Meta{}) != api.ErrForm {
			t.Errorf("P21.1: Save, Meta: %v", s.Meta())
		}
	}
}

// P21.1: a nil *Store: Kill ErrDown, Started 0, whatever it is told; and so of a Store that has no parts.
func TestNil(t *testing.T) {
	for _, s := range []*store.Store{nil, {}} {
		for _, keys := range [][]string{nil, {}, {"a"}, {""}, {"a", strings.Repeat("k", 41)}} {
			if n, err := s.Kill(keys...); n != 0 || err != api.ErrDown {
				t.Errorf("P21.1: Kill(%q) of a nil *Store: %d, %v", keys, n, err)
			}
		}
		if s.Started() != 0 {
			t.Errorf("P21.1: a nil *Store: started %d", s.Started())
		}
	}
	var none store.Store
	if none.Put(api.Item{Key: "a"}) != api.ErrDown || none.Save(api.Meta{}) != api.ErrDown || none.Seq() != 0 || none.Keys() != nil {
		t.Error("P0.1: a Store that has no parts")
	}
}

// P0.3: what is handed in is neither changed nor kept.
func TestNewMemory(t *testing.T) {
	d := dev.New(200)
	s := made(t, d)
	s.Put(api.Item{Key: "a"})
	s.Put(api.Item{Key: "y"})
	room := []string{"a", "b", "", "y"}
	if n, err := s.Kill(room[:2]...); n != 2 || err != api.OK || !slices.Equal(room, []string{"a", "b", "", "y"}) {
		t.Errorf("P0.3: Kill changed its list: %d, %v, %q", n, err, room)
	}
	clear(room)
	want := all(t, s)
	if !slices.Equal(want.marks, []api.Mark{{Seq: 1, Key: "a"}, {Seq: 2, Key: "b"}}) || !slices.Equal(want.keys, []string{"y"}) {
		t.Errorf("P0.3: %v", want)
	}
	got := all(t, s)
	clear(got.items[:cap(got.items)])
	clear(got.keys[:cap(got.keys)])
	clear(got.marks[:cap(got.marks)])
	if got := all(t, s); !got.is(want) {
		t.Errorf("P0.3: an answer shares memory: %v, want %v", got, want)
	}
}

// P0.5: two stores that are told the same answer the same, whatever is asked in between; asking writes nothing.
func TestSameAnswers(t *testing.T) {
	d, e := dev.New(192), filled(192, 0xaa)
	s, other := made(t, d), made(t, e)
	for k := range 200 {
		for _, s := range []*store.Store{s, other} {
			s.Put(api.Item{Key: fmt.Sprint(k % 13), Val: strings.Repeat("v", k)})
			s.Kill([]string{"1", fmt.Sprint(k % 7)}[:k%3]...)
		}
		calls := d.Calls()
		if one := all(t, s); k%9 == 0 && !one.is(all(t, other)) {
			t.Fatalf("P0.5: %v and %v", one, all(t, other))
		}
		if d.Calls() != calls {
			t.Fatal("P0.5: asking wrote")
		}
		if k%50 == 49 {
			s, other = opened(t, d), opened(t, e)
		}
	}
}

// walk is a store, and what it was told.
type walk struct {
	t     *testing.T
	d     *dev.Dev
	s     *store.Store
	vals  map[string][]string // of each key what was put since it was last taken away
	marks []api.Mark
	meta  api.Meta
	count int
}

// check holds the store to what it was told, and to its parts on the device.
func (w *walk) check() {
	w.t.Helper()
	got := all(w.t, w.s)
	if want := parts(w.t, w.d); !got.is(want) {
		w.t.Fatalf("P21.1: told %v, the parts %v", got, want)
	}
	if got.seq != int64(len(w.marks)) || !slices.Equal(got.marks, w.marks[got.base:]) || got.meta != w.meta || w.s.Started() != w.meta.Boot {
		w.t.Fatalf("P21.1: told %v, started %d; want of %v, %v", got, w.s.Started(), w.marks, w.meta)
	}
	for _, x := range got.items {
		if !slices.Contains(w.vals[x.Key], x.Val) {
			w.t.Fatalf("P21.1: %v is there; put were %q", x, w.vals[x.Key])
		}
	}
}

// step tells the store one thing.
func (w *walk) step(r *rand.Rand) {
	w.t.Helper()
	keys := []string{fmt.Sprint("key ", r.IntN(9)), fmt.Sprint("key ", r.IntN(9)), "other"}
	switch k := r.IntN(20); {
	case k < 10:
		w.count++
		x := api.Item{Key: keys[0], Val: strings.Repeat("v", r.IntN(150)) + fmt.Sprint(w.count)}
		w.vals[x.Key] = append(w.vals[x.Key], x.Val)
		if err := w.s.Put(x); err != api.OK {
			w.t.Fatalf("P21.1: Put(%v): %v", x, err)
		}
	case k < 14:
		keys = keys[:r.IntN(4)]
		for _, key := range keys {
			w.marks = append(w.marks, api.Mark{Seq: int64(len(w.marks) + 1), Key: key})
			w.vals[key] = nil
		}
		if n, err := w.s.Kill(keys...); n != int64(len(w.marks)) || err != api.OK || len(w.d.Loose()) != 0 {
			w.t.Fatalf("P21.1: Kill(%q): %d, %v; loose: %v", keys, n, err, w.d.Loose())
		}
	case k == 14:
		w.s.Wipe()
		clear(w.vals)
	case k == 15:
		w.s.Flush()
	case k == 16:
		w.meta.Epoch++
		w.meta.Ready = (w.meta.Epoch + 1) * int64(r.IntN(2))
		w.meta.Frozen = w.meta.Ready > 0 && r.IntN(2) == 0
		w.s.Save(w.meta)
	default:
		keep := make([]bool, len(w.d.Loose()))
		for i := range keep {
			keep[i] = r.IntN(3) > 0
		}
		if k > 17 {
			w.d = w.d.Crash(keep...)
		}
		w.s = opened(w.t, w.d)
		w.meta.Boot++
	}
}

// P21.1: long walks, with crashes and starts.
func TestDrawn(t *testing.T) {
	t.Parallel()
	for seed := range uint64(40) {
		r := rand.New(rand.NewPCG(21, seed))
		d := dev.New(192 + r.IntN(60))
		w := &walk{t: t, d: d, s: made(t, d), vals: map[string][]string{}, meta: api.Meta{Boot: 1}}
		for range 200 {
			w.step(r)
			w.check()
		}
	}
}
