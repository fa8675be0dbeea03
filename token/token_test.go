package token_test

import (
	"math"
	"math/rand/v2"
	"runtime"
	"slices"
	"strconv"
	"strings"
	"testing"

	"icehouse/token"
)

// The reference below is written from the chapter: it keeps all that was ever given, and goes through all of it each time.

type given struct {
	key          string
	used, killed bool
}

type ref struct{ all []given }

func (r *ref) give(key string) int64 {
	r.all = append(r.all, given{key: key})
	return int64(len(r.all))
}

func (r *ref) use(id int64) (string, bool) {
	if id < 1 || id > int64(len(r.all)) || r.all[id-1].used {
		return "", false
	}
	g := &r.all[id-1]
	g.used = true
	return g.key, !g.killed
}

// kill kills the good ones that it is asked for.
func (r *ref) kill(whose func(key string) bool) int {
	n := 0
	for i := range r.all {
		if g := &r.all[i]; !g.used && !g.killed && whose(g.key) {
			g.killed = true
			n++
		}
	}
	return n
}

func (r *ref) len() int {
	n := 0
	for _, g := range r.all {
		if !g.used {
			n++
		}
	}
	return n
}

// model is a Tokens beside the reference, which is told the same.
type model struct {
	t *testing.T
	x *token.Tokens
	r ref
}

func newModel(t *testing.T) *model { return &model{t: t, x: token.New()} }

func (m *model) check() {
	m.t.Helper()
	if got, want := m.x.Len(), m.r.len(); got != want {
		m.t.Fatalf("P18.1: Len: %d, want %d", got, want)
	}
}

func (m *model) give(keys ...string) {
	m.t.Helper()
	for _, key := range keys {
		if got, want := m.x.Give(key), m.r.give(key); got != want {
			m.t.Fatalf("P18.1: Give(%.20q): %d, want %d", key, got, want)
		}
		m.check()
	}
}

func (m *model) use(ids ...int64) {
	m.t.Helper()
	for _, id := range ids {
		want, good := m.r.use(id)
		if key, ok := m.x.Use(id); key != want || ok != good {
			m.t.Fatalf("P18.1: Use(%d): %.20q, %v, want %.20q, %v", id, key, ok, want, good)
		}
		m.check()
	}
}

func (m *model) kill(keys ...string) {
	m.t.Helper()
	want := m.r.kill(func(key string) bool { return slices.Contains(keys, key) })
	if got := m.x.Kill(keys...); got != want {
		m.t.Fatalf("P18.1: Kill(%.20q): %d, want %d", keys, got, want)
	}
	m.check()
}

func (m *model) clear() {
	m.t.Helper()
	want := m.r.kill(func(string) bool { return true })
	if got := m.x.Clear(); got != want {
		m.t.Fatalf("P18.1: Clear: %d, want %d", got, want)
	}
	m.check()
}

// end uses all that was given, twice, and so holds all that is kept against the reference.
func (m *model) end() {
	m.t.Helper()
	for range 2 {
		for id := range int64(len(m.r.all)) + 3 {
			m.use(id)
		}
	}
	if got := m.x.Len(); got != 0 {
		m.t.Fatalf("P18.1: all are used, Len: %d", got)
	}
}

// odd are numbers about all limits, and about those that narrower integers would have.
func odd() []int64 {
	return []int64{
		0, -1, -2, -3, math.MinInt64, math.MinInt64 + 1, math.MaxInt64, math.MaxInt64 - 1,
		1<<8 + 1, 1<<16 + 1, 1<<31 + 1, 1<<32 + 1, 1<<32 + 2, -1<<32 + 1, 1 << 40, 1<<40 + 1, 1<<40 - 1,
	}
}

// oddKeys are keys of all kinds: a Tokens asks nothing of a key.
func oddKeys() []string {
	return []string{
		"", "\x00", "\x00\x00", "a", "A", "a\x00", "aa", "ab", "é", "e\u0301", "雪", "\x80", "\xff", "\xff\xff", "1", "0",
		strings.Repeat("k", 40), strings.Repeat("k", 41), strings.Repeat("k", 100000), strings.Repeat("k", 100000) + "l",
	}
}

// P18.1: by hand, without the reference: what each call answers, one behind the other.
func TestKnown(t *testing.T) {
	x := token.New()
	give := func(key string, want int64) {
		t.Helper()
		if got := x.Give(key); got != want {
			t.Errorf("P18.1: Give(%q): %d, want %d", key, got, want)
		}
	}
	use := func(id int64, want string, good bool) {
		t.Helper()
		if key, ok := x.Use(id); key != want || ok != good {
			t.Errorf("P18.1: Use(%d): %q, %v, want %q, %v", id, key, ok, want, good)
		}
	}
	count := func(how string, got, want int) {
		t.Helper()
		if got != want {
			t.Errorf("P18.1: %s: %d, want %d", how, got, want)
		}
	}
	count("Len", x.Len(), 0)
	use(1, "", false)
	give("a", 1)
	give("b", 2)
	give("a", 3)
	give("a", 4)
	count("Len", x.Len(), 4)
	use(3, "a", true)
	use(3, "", false)
	count("Len behind Use", x.Len(), 3)
	count("Kill(a)", x.Kill("a"), 2)
	count("Len behind Kill", x.Len(), 3)
	count("Kill(a) again", x.Kill("a"), 0)
	give("a", 5)
	use(1, "a", false)
	use(1, "", false)
	use(3, "", false)
	count("Len behind Use of a killed one", x.Len(), 3)
	use(5, "a", true)
	use(2, "b", true)
	count("Len: 4 was killed", x.Len(), 1)
	count("Clear", x.Clear(), 0)
	give("c", 6)
	give("a", 7)
	count("Clear of two", x.Clear(), 2)
	count("Clear again", x.Clear(), 0)
	count("Len behind Clear", x.Len(), 3)
	use(6, "c", false)
	use(7, "a", false)
	use(4, "a", false)
	count("Len at the end", x.Len(), 0)
	for _, id := range []int64{1, 2, 3, 4, 5, 6, 7} {
		use(id, "", false)
	}
	give("a", 8)
	use(8, "a", true)
}

// P18.1: one more each time, whatever lies between, and of whichever key.
func TestGive(t *testing.T) {
	x := token.New()
	for i := range int64(2000) {
		if got := x.Give("k" + strconv.FormatInt(i%7, 10)); got != i+1 {
			t.Fatalf("P18.1: Give %d: %d", i+1, got)
		}
		switch i % 5 {
		case 0:
			x.Use(i + 1)
		case 1:
			x.Kill("k3", "k"+strconv.FormatInt(i%7, 10))
		case 2:
			x.Clear()
		case 3:
			x.Use(i + 2)
		}
	}
}

// P18.1: numbers that were not given have no key, and asking for them changes nothing.
func TestUseWrong(t *testing.T) {
	m := newModel(t)
	m.use(odd()...)
	m.give("a", "b", "a")
	m.use(odd()...)
	m.use(4, 5)
	m.kill("a")
	m.use(odd()...)
	m.use(4, 5)
	m.give("c", "a")
	m.end()
}

// P18.1: a good one is used once; the others of its key stay good.
func TestUseOnce(t *testing.T) {
	for first := range int64(5) {
		m := newModel(t)
		m.give("a", "a", "a", "a", "a")
		m.use(first+1, first+1, first+1)
		m.kill("b")
		if got := m.x.Len(); got != 4 {
			t.Errorf("P18.1: Len: %d, want 4", got)
		}
		m.end()
	}
}

// P18.1: one that is given behind a Kill of its key is good, and those of ahead stay killed.
func TestGiveBehindKill(t *testing.T) {
	m := newModel(t)
	m.give("a", "a", "b")
	m.kill("a")
	m.give("a")
	m.use(1)
	m.give("a")
	m.use(4)
	m.kill("a")
	m.give("a", "b")
	m.clear()
	m.give("a", "b")
	m.use(9)
	m.kill("b", "a")
	m.end()
}

// P18.1: the used ones of a key are not killed any more; a key whose last good one was used has none.
func TestKillBehindUse(t *testing.T) {
	m := newModel(t)
	m.give("a", "a", "a", "b")
	m.use(2)
	m.kill("a")
	m.use(4)
	m.kill("b")
	m.clear()
	m.give("b", "a")
	m.use(5)
	m.clear()
	m.end()
}

// P18.1: Kill of several keys: each one's good ones once, however often it is told; of none; of keys that have none.
func TestKillSeveral(t *testing.T) {
	m := newModel(t)
	m.give("a", "b", "c", "a", "d", "", "b")
	m.kill()
	m.kill([]string{}...)
	m.kill("x", "y")
	m.kill("a", "a", "x", "c", "a")
	m.kill("b", "c", "a")
	m.kill("")
	m.kill("", "")
	m.end()
	m.kill("d")
}

// P18.1: Clear is of all keys: good ones only, and what comes behind it is good.
func TestClear(t *testing.T) {
	m := newModel(t)
	m.clear()
	m.give(oddKeys()...)
	m.give(oddKeys()...)
	m.use(3, 4, 5)
	m.kill("aa")
	m.clear()
	m.clear()
	m.give(oddKeys()...)
	m.use(1, int64(2*len(oddKeys())+1))
	m.clear()
	m.give("a")
	m.end()
	m.clear()
}

// P18.1: any text may be a key, and each is a key of its own.
func TestOddKeys(t *testing.T) {
	for _, kill := range oddKeys() {
		m := newModel(t)
		m.give(oddKeys()...)
		m.give(oddKeys()...)
		m.kill(kill)
		m.give(kill)
		m.end()
	}
	m := newModel(t)
	m.give(oddKeys()...)
	m.kill(oddKeys()...)
	m.kill(oddKeys()...)
	m.end()
}

// P18.1: all runs of five calls, of two keys.
func TestAllShort(t *testing.T) {
	calls := []func(m *model){
		func(m *model) { m.give("a") },
		func(m *model) { m.give("b") },
		func(m *model) { m.use(1) },
		func(m *model) { m.use(2) },
		func(m *model) { m.use(3) },
		func(m *model) { m.kill("a") },
		func(m *model) { m.kill("b", "a", "b") },
		func(m *model) { m.clear() },
	}
	for run := range 1 << 15 {
		m := newModel(t)
		for i := range 5 {
			calls[run>>(3*i)&7](m)
		}
		m.end()
	}
}

// P18.1: long runs drawn at random, of few keys and of many.
func TestDrawn(t *testing.T) {
	r := rand.New(rand.NewPCG(18, 1))
	for run := range 60 {
		m := newModel(t)
		key := func() string { return "k" + strconv.Itoa(r.IntN(1+run)) }
		for range 300 {
			switch n := r.IntN(40); {
			case n < 18:
				m.give(key())
			case n < 32:
				m.use(r.Int64N(int64(len(m.r.all))+3) - 1)
			case n < 39:
				keys := make([]string, r.IntN(4))
				for i := range keys {
					keys[i] = key()
				}
				m.kill(keys...)
			default:
				m.clear()
			}
		}
		m.end()
	}
}

// P0.1, P18.1: very many of one key and very many keys; each call ends in time.
func TestLong(t *testing.T) {
	const n = 1 << 18
	x := token.New()
	keys := make([]string, n)
	for i := range keys {
		keys[i] = strconv.Itoa(i)
		x.Give("one")
		x.Give(keys[i])
	}
	for id := int64(2*n - 1); id > n; id -= 2 {
		if key, ok := x.Use(id); key != "one" || !ok {
			t.Fatalf("P18.1: Use(%d): %q, %v", id, key, ok)
		}
	}
	if got := x.Kill(slices.Concat(slices.Repeat([]string{"one", "none"}, n), keys[:n/2], keys[:n/2])...); got != n {
		t.Errorf("P18.1: Kill of many: %d, want %d", got, n)
	}
	if got := x.Clear(); got != n/2 {
		t.Errorf("P18.1: Clear of many: %d, want %d", got, n/2)
	}
	for range n {
		x.Give("a")
		if got := x.Clear(); got != 1 {
			t.Fatalf("P18.1: Clear of one: %d", got)
		}
	}
	if got := x.Len(); got != 2*n+n/2 {
		t.Errorf("P18.1: Len: %d, want %d", got, 2*n+n/2)
	}
}

// P18.1: a nil *Tokens: 0, "", false, whatever it is told.
func TestNil(t *testing.T) {
	var none *token.Tokens
	for range 2 {
		for _, key := range oddKeys() {
			if none.Give(key) != 0 || none.Kill(key) != 0 || none.Kill(key, key, "a") != 0 {
				t.Errorf("P18.1: nil: Give or Kill of %.20q", key)
			}
		}
		for _, id := range append(odd(), 1, 2) {
			if key, ok := none.Use(id); key != "" || ok {
				t.Errorf("P18.1: nil: Use(%d): %q, %v", id, key, ok)
			}
		}
		if none.Kill() != 0 || none.Clear() != 0 || none.Len() != 0 {
			t.Error("P18.1: nil: Kill, Clear or Len")
		}
	}
}

// P0.1: a Tokens that New did not make is one that has given none, whatever it is told first.
func TestZero(t *testing.T) {
	for _, first := range []func(m *model){
		func(m *model) {},
		func(m *model) { m.use(1, 0) },
		func(m *model) { m.kill("a") },
		func(m *model) { m.clear() },
	} {
		m := &model{t: t, x: &token.Tokens{}}
		m.check()
		first(m)
		m.give("a", "b", "a")
		m.kill("a")
		m.give("a")
		m.end()
	}
}

// P0.5: what one Tokens was told says nothing of another one.
func TestApart(t *testing.T) {
	a, b := newModel(t), newModel(t)
	a.give("a", "b", "a")
	b.check()
	b.use(1, 2)
	b.clear()
	b.give("c", "a")
	a.kill("a")
	b.use(2)
	a.give("c")
	b.kill("b", "a")
	a.clear()
	b.end()
	a.end()
}

// P0.3: the keys of a Kill are neither changed nor kept, the room behind them neither.
func TestMemory(t *testing.T) {
	m := newModel(t)
	m.give("a", "b", "c", "d")
	room := []string{"b", "x", "a", "b", "c", "d"}
	was := slices.Clone(room)
	m.kill(room[:4]...)
	if !slices.Equal(room, was) {
		t.Errorf("P0.3: %q was changed to %q", was, room)
	}
	clear(room)
	m.give("a")
	m.kill("a")
	m.end()
}

// held is how many bytes are in use, when all that can go has gone.
func held() uint64 {
	var s runtime.MemStats
	runtime.GC()
	runtime.GC()
	runtime.ReadMemStats(&s)
	return s.HeapAlloc
}

// What is kept is no more than the tokens that are not used: neither the keys of those that are, killed or not, nor a text that a key was a piece of.
func TestKeepsLittle(t *testing.T) {
	const n, most = 4000, 1 << 21
	before := held()
	x := token.New()
	check := func(how string) {
		t.Helper()
		if now := held(); now > before+most {
			t.Errorf("behind %s %d bytes are kept", how, now-before)
		}
	}
	give := func() {
		for i := range n {
			x.Give(strings.Repeat("k", 4000) + strconv.Itoa(i))
		}
	}
	give()
	for id := range int64(n) {
		x.Use(id + 1)
	}
	check("Use")
	give()
	x.Clear()
	for id := range int64(n) {
		x.Use(n + id + 1)
	}
	check("Use of killed ones")
	for i := range n {
		x.Give((strings.Repeat("t", 4000) + strconv.Itoa(i))[3998:])
	}
	check("Give of pieces")
	if x.Len() != n {
		t.Errorf("P18.1: Len: %d, want %d", x.Len(), n)
	}
}
