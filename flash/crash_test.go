package flash_test

import (
	"fmt"
	"math/rand/v2"
	"slices"
	"testing"

	"icehouse/dev"
)

// P9.2: what P6.2 keeps is there, at each length of records, and with as many Opens.
func TestKept(t *testing.T) {
	for _, segs := range []int{3, 4, 9} {
		for _, size := range []int{0, 1, 30, 47, 48, 100, 200} {
			m := newModel(t, 0, segs)
			for k := range 60 {
				m.put(fmt.Sprint("k", k%31), size)
				if k%20 == 19 {
					m.flush()
					m.crash()
				}
			}
		}
	}
}

// P9.2: entries go as the log goes round, the eldest first, and only those that were not put since.
func TestEldestGo(t *testing.T) {
	m := newModel(t, 0, 3)
	m.put("old", 100)
	m.put("renewed", 100)
	for k := range 40 {
		m.put(fmt.Sprint("k", k), 100)
		m.put("renewed", 20)
	}
	if _, ok := m.c.Get("old", -1); ok {
		t.Error("P9.2: the eldest is there, though the log went round")
	}
	if keys := m.c.Keys(); !slices.Contains(keys, "renewed") || !slices.Contains(keys, "k39") || slices.Contains(keys, "k0") {
		t.Errorf("P9.2: %q", keys)
	}
}

// P9.3: what a Drop or a Wipe took away stays away while the log goes round, at each step, behind each crash, and behind two of them.
func TestStaysAway(t *testing.T) {
	t.Parallel()
	away := map[string]func(m *model){
		"Drop":           func(m *model) { m.drop("x") },
		"Drop twice":     func(m *model) { m.drop("x", "y"); m.drop("x") },
		"Wipe":           func(m *model) { m.wipe() },
		"Wipe and crash": func(m *model) { m.wipe(); m.crash() },
	}
	for name, take := range away {
		for _, ahead := range []int{0, 1, 5} {
			t.Run(fmt.Sprint(name, " behind ", ahead), func(t *testing.T) {
				t.Parallel()
				m := newModel(t, 0, 3)
				for k := range ahead {
					m.put(fmt.Sprint("a", k), 60)
				}
				m.put("x", 90)
				m.flush()
				for k := range ahead {
					m.put(fmt.Sprint("b", k), 70)
				}
				take(m)
				for k := range 24 {
					m.put(fmt.Sprint("c", k), k*17%200)
					m.forks(func(f *model) {
						if slices.Contains(f.c.Keys(), "x") {
							t.Fatal("P9.3: x is there again")
						}
						f.put("d", 120)
						f.crash(true)
					})
				}
			})
		}
	}
}

// P9.3: a key that is put again behind a Drop is as it was put again, or away; never as it was ahead.
func TestPutAgain(t *testing.T) {
	t.Parallel()
	for _, size := range []int{1, 40, 52, 53, 106, 200} {
		for between := range 5 {
			m := newModel(t, 2, 3)
			m.put("x", size)
			m.flush()
			m.drop("x")
			for k := range between {
				m.put(fmt.Sprint("k", k), size)
			}
			m.put("x", size)
			m.forks(func(f *model) { f.forks(func(f *model) { f.put("x", 3) }) })
			m.wipe()
			m.put("x", size)
			m.forks(func(f *model) { f.drop("x"); f.crash() })
		}
	}
}

// P9.3: of a key that is put several times between two Flushes a crash shows the last one, or what was flushed; also when other keys are put in between, and when the cache is opened on the way, without a crash.
func TestNoneBetween(t *testing.T) {
	t.Parallel()
	for _, size := range []int{1, 20, 50, 100, 200} {
		for _, others := range []int{0, 1, 4, 20} {
			m := newModel(t, 0, 6)
			m.put("x", size)
			m.flush()
			for k := range 12 {
				m.put("x", size)
				for i := range others {
					m.put(fmt.Sprint("k", i), size)
				}
				m.forks(func(f *model) { f.put("x", 1) })
				if k%4 == 3 {
					flushed := m.flushed
					m.open()
					m.flushed = flushed
				}
			}
		}
	}
}

// P9.3: what was flushed is there, though nothing else of what was put behind it stays.
func TestFlushed(t *testing.T) {
	m := newModel(t, 0, 40)
	for k := range 100 {
		m.put(fmt.Sprint("k", k%17), k)
		if k%9 == 8 {
			m.flush()
		}
		want := len(m.flushed)
		if f := m.fork(); len(f.c.Keys()) < want {
			t.Fatalf("P9.3: %d keys were flushed, %q are there", want, f.c.Keys())
		}
	}
}

// P9.1: a Put behind a Flush leaves the flushing to the next one, be its key new or not: a Flush for each Put would wear the device.
func TestPutIsLoose(t *testing.T) {
	m := newModel(t, 0, 40)
	m.put("a", 10)
	m.put("b", 10)
	if len(m.d.Loose()) == 0 {
		t.Error("P9.1: the first Puts flushed")
	}
	for k := range 20 {
		m.flush()
		for _, key := range []string{"a", "b", fmt.Sprint("k", k)} {
			m.put(key, 10)
			if len(m.d.Loose()) == 0 {
				t.Errorf("P9.1: Put of %q flushed", key)
			}
		}
	}
}

// P9.3: Opens alone change nothing, however many there are.
func TestOpens(t *testing.T) {
	m := newModel(t, 0, 3)
	m.put("a", 10)
	m.drop("b")
	m.put("c", 20)
	m.flush()
	for range 50 {
		m.crash()
		if keys := m.c.Keys(); !slices.Equal(keys, []string{"a", "c"}) {
			t.Fatalf("P9.3: behind an Open: %q", keys)
		}
	}
}

// P9.1 to P9.3: long walks, with crashes.
func TestWalks(t *testing.T) {
	t.Parallel()
	for seed := range uint64(60) {
		r := rand.New(rand.NewPCG(seed, 90))
		m := newModel(t, r.IntN(4), 3+r.IntN(5))
		keys, longest := 1+r.IntN(12), 1+r.IntN(200)
		for range 250 {
			key := fmt.Sprint("key ", r.IntN(keys))
			switch k := r.IntN(40); {
			case k < 24:
				m.put(key, r.IntN(longest+1))
			case k < 30:
				m.drop(key)
			case k == 30:
				m.drop(key, fmt.Sprint("key ", r.IntN(keys)), "other")
			case k == 31:
				m.wipe()
			case k < 37:
				m.flush()
			default:
				m.crash(some(r, m.d)...)
			}
		}
	}
}

// some chooses among the loose sectors.
func some(r *rand.Rand, d *dev.Dev) []bool {
	keep := make([]bool, len(d.Loose()))
	for i := range keep {
		keep[i] = r.IntN(3) > 0
	}
	return keep
}
