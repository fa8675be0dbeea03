package index_test

import (
	"maps"
	"math"
	"math/rand/v2"
	"runtime"
	"slices"
	"strconv"
	"strings"
	"testing"

	"icehouse/index"
	"icehouse/mix"
)

// model is an index, and what it was told.
type model struct {
	t    *testing.T
	x    *index.Index
	want map[string]int64
}

func newModel(t *testing.T) *model {
	return &model{t: t, x: index.New(), want: map[string]int64{}}
}

func (m *model) put(key string, pos int64) {
	m.t.Helper()
	if was := m.x.Put(key, pos); was != m.want[key] {
		m.t.Fatalf("P8.1: Put(%.20q, %d): %d, want %d", key, pos, was, m.want[key])
	}
	m.want[key] = pos
}

func (m *model) drop(key string) {
	m.t.Helper()
	_, has := m.want[key]
	if m.x.Drop(key) != has {
		m.t.Fatalf("P8.1: Drop(%.20q): %v, want %v", key, !has, has)
	}
	delete(m.want, key)
}

func (m *model) below(pos int64) {
	m.t.Helper()
	had := len(m.want)
	maps.DeleteFunc(m.want, func(_ string, p int64) bool { return p < pos })
	if n := m.x.Below(pos); n != had-len(m.want) {
		m.t.Fatalf("P8.1: Below(%d): %d, want %d", pos, n, had-len(m.want))
	}
}

func (m *model) get(key string) {
	m.t.Helper()
	want, has := m.want[key]
	if pos, ok := m.x.Get(key); pos != want || ok != has {
		m.t.Fatalf("P8.1: Get(%.20q): %d, %v, want %d, %v", key, pos, ok, want, has)
	}
}

// check says that just those keys are there which were told, and of the others none.
func (m *model) check(others ...string) {
	m.t.Helper()
	keys := slices.Sorted(maps.Keys(m.want))
	if got := m.x.Keys(); !slices.Equal(got, keys) {
		m.t.Fatalf("P8.1: Keys: %d of them, %.20q, want %d, %.20q", len(got), got, len(keys), keys)
	}
	if m.x.Len() != len(keys) {
		m.t.Fatalf("P8.1: Len: %d, want %d", m.x.Len(), len(keys))
	}
	for _, key := range slices.Concat(keys, others) {
		m.get(key)
	}
}

// crowd are n keys whose hashes end in the same 10 bits, so that they ask for the same slot of a table of up to 1,024; with all of them set it is the last one.
func crowd(n int, bits uint64) []string {
	var out []string
	for i := 0; len(out) < n; i++ {
		if key := "c" + strconv.Itoa(i); mix.Of(key)%1024 == bits {
			out = append(out, key)
		}
	}
	return out
}

// P8.1: keys that come, change, and go, one behind the other.
func TestKnown(t *testing.T) {
	m := newModel(t)
	m.check("", "a")
	m.drop("a")
	m.put("a", 5)
	m.check("", "b", "A", "a\x00", "aa")
	m.put("a", 7)
	m.put("b", 5)
	m.check("c")
	m.put("a", 2)
	m.put("a", 2)
	m.check("c")
	m.drop("a")
	m.check("a")
	m.drop("a")
	m.put("a", 9)
	m.check()
	m.drop("b")
	m.drop("a")
	m.check("a", "b")
}

// P8.1: all bytes may be in a key, none and many too, and all numbers may be positions; Keys are in the order of their bytes.
func TestOddKeys(t *testing.T) {
	keys := []string{
		"", "\x00", "\x00\x00", "\x00a", "A", "Z", "a", "a\x00", "aa", "ab", "b", "k1", "k10", "k2", "é", "雪",
		"\x80", "\xff", "\xff\xff", strings.Repeat("k", 40), strings.Repeat("k", 41), strings.Repeat("k", 100000),
	}
	positions := []int64{math.MinInt64, -1 << 40, -1, 0, 1, 2, 1 << 40, math.MaxInt64}
	for shift := range positions {
		m := newModel(t)
		for i, key := range keys {
			m.put(key, positions[(i+shift)%len(positions)])
		}
		m.check("c", "a\x00\x00", strings.Repeat("k", 42))
		for i, key := range keys {
			m.put(key, positions[(i*3+shift)%len(positions)])
		}
		m.check()
		for _, key := range keys {
			m.drop(key)
			m.check(keys...)
		}
	}
}

// P8.1: a position 0 looks like no key to Put, but not to the others.
func TestZeroPosition(t *testing.T) {
	x := index.New()
	if was := x.Put("a", 0); was != 0 {
		t.Errorf("P8.1: Put: %d", was)
	}
	if pos, ok := x.Get("a"); pos != 0 || !ok || x.Len() != 1 || len(x.Keys()) != 1 {
		t.Errorf("P8.1: Get: %d, %v; Len: %d", pos, ok, x.Len())
	}
	if was := x.Put("a", 3); was != 0 {
		t.Errorf("P8.1: Put: %d", was)
	}
	if was := x.Put("a", 0); was != 3 || x.Len() != 1 {
		t.Errorf("P8.1: Put: %d, want 3; Len: %d", was, x.Len())
	}
	if x.Below(0) != 0 || x.Below(1) != 1 || x.Len() != 0 {
		t.Error("P8.1: Below")
	}
	x.Put("a", 0)
	if !x.Drop("a") || x.Drop("a") {
		t.Error("P8.1: Drop")
	}
}

// P8.1: what lies at pos stays; several keys may lie at one place.
func TestBelow(t *testing.T) {
	places := []int64{math.MinInt64, math.MinInt64 + 1, -7, -1, 0, 0, 1, 2, 2, 2, 3, 1 << 40, math.MaxInt64 - 1, math.MaxInt64, math.MaxInt64}
	fill := func() *model {
		m := newModel(t)
		for i, pos := range places {
			m.put("k"+strconv.Itoa(i), pos)
		}
		return m
	}
	for _, pos := range append([]int64{-8, 4, 1<<40 - 1, 1<<40 + 1}, places...) {
		m := fill()
		m.below(pos)
		m.check("k0", "k3", "k8", "k14")
		m.below(pos)
		m.check()
		m.put("k0", 3)
		m.put("k8", 4)
		m.check()
	}
	m := fill()
	for _, pos := range places {
		m.below(pos)
		m.check("k0", "k3", "k8")
	}
	m.below(math.MinInt64)
	m.check()
}

// P8.1: the latest position of a key counts, not one that it had ahead.
func TestBelowMoved(t *testing.T) {
	m := newModel(t)
	m.put("up", 1)
	m.put("up", 10)
	m.put("down", 10)
	m.put("down", 1)
	m.below(5)
	m.check("down", "up")
}

// P8.1: many keys, so that the table grows, and is emptied in each of the ways.
func TestMany(t *testing.T) {
	const n = 20000
	key := func(i int) string { return "key " + strconv.Itoa(i) }
	fill := func() *model {
		m := newModel(t)
		for i := range n {
			m.put(key(i), int64(i+1))
			if m.x.Len() != i+1 {
				t.Fatalf("P8.1: Len: %d, want %d", m.x.Len(), i+1)
			}
		}
		m.check(key(n), key(-1))
		return m
	}
	m := fill()
	for i := range n {
		m.drop(key((i*7919 + 3) % n))
		if i%1999 == 0 || i >= n-20 {
			m.check(key(3), key(n-1))
		}
	}
	m.check()
	m = fill()
	for pos := int64(0); pos <= n+1; pos += 1667 {
		m.below(pos)
		m.check(key(0), key(int(pos)))
	}
	m.below(n + 1)
	m.check(key(n - 1))
}

// P8.1: keys that ask for one slot, and for the one ahead of it, and round the end of the table: all orders in which they come and go.
func TestCrowdAllOrders(t *testing.T) {
	keys := slices.Concat(crowd(2, 1023), crowd(1, 1022), crowd(1, 0))
	const most = 6
	var acts [most]int
	var walk func(n int)
	walk = func(n int) {
		if n == most {
			m := newModel(t)
			for i, act := range acts {
				if key := keys[act/2]; act%2 == 0 {
					m.put(key, int64(i+1))
				} else {
					m.drop(key)
				}
			}
			m.check(keys...)
			return
		}
		for act := range 2 * len(keys) {
			// A drop of what is not there changes nothing: as the first act it would tell nothing new.
			if n > 0 || act%2 == 0 {
				acts[n] = act
				walk(n + 1)
			}
		}
	}
	walk(0)
}

// twins are keys that have one hash, all 64 bits of it.
func twins(t *testing.T) []string {
	t.Helper()
	out := []string{"pkruAjapfdbscd", "pkruAjaivwkhqx", "dymuDgipfdbscd", "dymuDgiivwkhqx"}
	for _, key := range out {
		if mix.Of(key) != mix.Of(out[0]) {
			t.Fatalf("P1.1: Of(%q): %#x, want %#x", key, mix.Of(key), mix.Of(out[0]))
		}
	}
	return out
}

// P8.1: keys count, not their hashes.
func TestOneHash(t *testing.T) {
	keys := twins(t)
	for i, key := range keys {
		m := newModel(t)
		m.put(key, 1)
		m.check(keys...)
		m.drop(keys[(i+1)%len(keys)])
		m.check(keys...)
		for k, other := range keys {
			m.put(other, int64(k+2))
			m.check(keys...)
		}
		m.drop(key)
		m.check(keys...)
		m.below(4)
		m.check(keys...)
		m.put(key, 9)
		m.check(keys...)
	}
}

// P8.1: crowds beside each other and round the end of the table, in tables of several sizes, by chance.
func TestCrowdWalk(t *testing.T) {
	r := rand.New(rand.NewPCG(8, 1))
	for _, each := range []int{1, 2, 4, 30} {
		var keys []string
		for _, bits := range []uint64{1021, 1022, 1023, 0, 1, 2} {
			keys = append(keys, crowd(each, bits)...)
		}
		m := newModel(t)
		for i := range 30000 {
			key := keys[r.IntN(len(keys))]
			// For some time more keys come than go, then the other way round.
			if r.IntN(10) < 3+i/500%2*4 {
				m.drop(key)
			} else {
				m.put(key, int64(i+1))
			}
			if i%701 == 700 {
				m.below(int64(i - r.IntN(400)))
			}
			m.get(keys[r.IntN(len(keys))])
			if i%53 == 0 {
				m.check(keys...)
			}
		}
	}
}

// P8.1: all acts, of few keys and of many, by chance.
func TestWalk(t *testing.T) {
	r := rand.New(rand.NewPCG(8, 2))
	for _, n := range []int{1, 3, 6, 7, 12, 13, 100, 1000} {
		m := newModel(t)
		for i := range 20000 {
			key := strconv.Itoa(r.IntN(n))
			switch r.IntN(9) {
			case 0, 1, 2, 3:
				m.put(key, r.Int64N(1000)-100)
			case 4, 5, 6:
				m.drop(key)
			case 7:
				m.get(key)
			default:
				if r.IntN(n) == 0 {
					m.below(r.Int64N(1200) - 200)
				}
			}
			if i%101 == 0 {
				m.check("", "none")
			}
		}
		m.check()
	}
}

// P8.1: a nil *Index: 0, false, nothing.
func TestNil(t *testing.T) {
	var x *index.Index
	for _, key := range []string{"", "a", "a", strings.Repeat("k", 1000)} {
		if was := x.Put(key, 5); was != 0 {
			t.Errorf("P8.1: Put of nil: %d", was)
		}
		if pos, ok := x.Get(key); pos != 0 || ok {
			t.Errorf("P8.1: Get of nil: %d, %v", pos, ok)
		}
		if x.Drop(key) || x.Len() != 0 || len(x.Keys()) != 0 {
			t.Error("P8.1: Drop, Len or Keys of nil")
		}
		for _, pos := range []int64{math.MinInt64, 0, 6, math.MaxInt64} {
			if n := x.Below(pos); n != 0 {
				t.Errorf("P8.1: Below of nil: %d", n)
			}
		}
	}
}

// P0.1: an Index that New did not make is an empty one, whatever it is asked first.
func TestZeroValue(t *testing.T) {
	for _, first := range []func(m *model){
		func(m *model) { m.put("a", 3) },
		func(m *model) { m.get("a") },
		func(m *model) { m.drop("a") },
		func(m *model) { m.below(4) },
		func(m *model) { m.check("a") },
	} {
		m := &model{t: t, x: &index.Index{}, want: map[string]int64{}}
		first(m)
		m.check("a", "b")
		m.put("b", 4)
		m.check("a")
	}
}

// P0.1: keys that come and go for long: the table does not fill up with what is gone, and each call ends.
func TestEverOtherKeys(t *testing.T) {
	m := newModel(t)
	m.put("stays", 1)
	for i := range 1000000 {
		key := strconv.Itoa(i)
		m.put(key, int64(i+1))
		if i%3 != 0 {
			m.drop(key)
		} else {
			m.drop(strconv.Itoa(i - 9))
		}
	}
	m.check("0", "999999")
}

// P0.3: what Keys answers is its reader's alone, spare room too.
func TestNewMemory(t *testing.T) {
	m := newModel(t)
	for i := range 9 {
		m.put("k"+strconv.Itoa(i), int64(i+1))
	}
	one, two := m.x.Keys(), m.x.Keys()
	clear(one[:cap(one)])
	if !slices.Equal(two, m.x.Keys()) || two[0] != "k0" {
		t.Errorf("P0.3: Keys share memory: %q", two)
	}
	m.check()
	_ = append(two[:3], "z", "y")
	m.check("z")
}

// P0.5: of two indexes none knows what the other was told.
func TestApart(t *testing.T) {
	one, two := newModel(t), newModel(t)
	for i := range 100 {
		key := strconv.Itoa(i)
		one.put(key, int64(i+1))
		two.put(key, int64(-i))
		if i%3 == 0 {
			two.drop(key)
		}
	}
	two.below(-50)
	one.check()
	two.check()
	one.below(math.MaxInt64)
	one.check("1")
	two.check("0")
}

// P0.5: in whatever order keys come, the same ones are told the same way.
func TestOrderOfPuts(t *testing.T) {
	r := rand.New(rand.NewPCG(8, 3))
	keys := crowd(20, 1023)
	for i := range 50 {
		keys = append(keys, strconv.Itoa(i))
	}
	for range 50 {
		r.Shuffle(len(keys), func(i, k int) { keys[i], keys[k] = keys[k], keys[i] })
		m := newModel(t)
		for _, key := range keys {
			m.put(key, int64(len(key)))
		}
		m.check()
	}
}

// held is how many bytes are in use, when all that can go has gone.
func held() uint64 {
	var s runtime.MemStats
	runtime.GC()
	runtime.GC()
	runtime.ReadMemStats(&s)
	return s.HeapAlloc
}

// What is kept is no more than the keys that are there: those that went take no room, nor does a text that a key was a piece of.
func TestKeepsLittle(t *testing.T) {
	const n, most = 100000, 1 << 20
	key := func(i int) string { return strings.Repeat("k", 100) + strconv.Itoa(i) }
	before := held()
	x := index.New()
	check := func(how string) {
		t.Helper()
		if now := held(); now > before+most {
			t.Errorf("behind %s %d bytes are kept", how, now-before)
		}
	}
	for i := range n {
		x.Put(key(i), int64(i+1))
	}
	for i := range n {
		x.Drop(key(i))
	}
	check("Drop")
	for i := range n {
		x.Put(key(i), int64(i+1))
	}
	x.Below(n)
	check("Below")
	x.Put(strings.Repeat("long", most), 1)
	x.Drop(strings.Repeat("long", most))
	check("Drop of a long key")
	x.Put(strings.Repeat("long", most)[:9], 1)
	check("Put of a piece")
	if !slices.Equal(x.Keys(), []string{key(n - 1), "longlongl"}) {
		t.Errorf("P8.1: Keys: %q", x.Keys())
	}
}
