package flash_test

import (
	"fmt"
	"maps"
	"math"
	"math/rand/v2"
	"slices"
	"strings"
	"testing"

	"icehouse/api"
	"icehouse/dev"
	"icehouse/flash"
	"icehouse/item"
	"icehouse/mix"
	"icehouse/slog"
)

const allHashes = math.MaxUint64

// bad are entries that may not be put.
var bad = []api.Item{
	{},
	{Val: "v"},
	{Key: strings.Repeat("k", 41)},
	{Key: strings.Repeat("k", 1<<16)},
	{Key: "a", Val: strings.Repeat("v", 201)},
	{Key: "a", End: -1},
	{Key: "a", End: math.MinInt64},
	{Key: "a", End: 1<<40 + 1},
	{Key: "a", End: math.MaxInt64},
	{Key: "a", Gone: true},
	{Key: "a", Val: "v", Gone: true},
	{Gone: true},
}

// badKeys are texts that may not be keys.
var badKeys = []string{"", strings.Repeat("k", 41), strings.Repeat("\x00", 1<<16)}

// same says that the cache tells what it told, and that its device was not touched.
func same(t *testing.T, c *flash.Cache, d *dev.Dev, want map[string]api.Item, calls int) {
	t.Helper()
	if got := told(t, c); !maps.Equal(got, want) || d.Calls() != calls {
		t.Errorf("P9.1: %v and %d calls, want %v and %d", got, d.Calls(), want, calls)
	}
}

// P9.1: ErrRange, where slog has it; and nothing beside it.
func TestOpenRange(t *testing.T) {
	for _, n := range []int{1, 23, 24, 25, 1600, 2048} {
		d := dev.New(n)
		for _, segs := range []int{math.MinInt64, -1, 0, 1, 2, 3, 4, 200, 201, 1 << 61, math.MaxInt64} {
			last := n - segs*api.SegLen
			for _, from := range []int{math.MinInt64, -1, 0, 1, last - 1, last, last + 1, n, math.MaxInt64} {
				want := api.ErrRange
				if segs >= 3 && segs <= 200 && from >= 0 && from <= last {
					want = api.OK
				}
				if c, err := flash.Open(d, from, segs); err != want || (c != nil) != (want == api.OK) {
					t.Errorf("P9.1: Open(%d, %d) of %d sectors: %v, want %v", from, segs, n, err, want)
				}
			}
		}
	}
	if c, err := flash.Open(nil, 0, 3); c != nil || err != api.ErrRange {
		t.Errorf("P9.1: Open of no device: %v", err)
	}
}

// P9.1: a Put's entry is its key's, whatever it was; and only that key's.
func TestPut(t *testing.T) {
	c := open(t, dev.New(100), 3, 12)
	want := map[string]api.Item{}
	for _, x := range []api.Item{
		{Key: "a"},
		{Key: "a", Val: "1", End: 7},
		{Key: "a", Val: "2"},
		{Key: "b", Val: "2", End: 1 << 40},
		{Key: "\x00", Val: "\x00\x00"},
		{Key: "\x00\x00", Val: "\xff"},
		{Key: strings.Repeat("k", 40), Val: strings.Repeat("v", 200), End: 1 << 40},
		{Key: strings.Repeat("k", 39), Val: strings.Repeat("v", 199)},
		{Key: "雪", Val: "\xe9\x9b"},
		{Key: "a", Val: "2"},
		{Key: "a"},
	} {
		if err := c.Put(x); err != api.OK {
			t.Fatalf("P9.1: Put(%v): %v", x, err)
		}
		want[x.Key] = x
		if got := told(t, c); !maps.Equal(got, want) {
			t.Fatalf("P9.1: behind Put(%v): %v, want %v", x, got, want)
		}
	}
}

// P9.1: ErrForm of what may not be or is Gone, and nothing has changed.
func TestPutForm(t *testing.T) {
	d := dev.New(100)
	c := open(t, d, 0, 12)
	c.Put(sum("a", "1"))
	c.Flush()
	want, calls := told(t, c), d.Calls()
	for _, x := range bad {
		if err := c.Put(x); err != api.ErrForm {
			t.Errorf("P9.1: Put(%.60v): %v, want ErrForm", x, err)
		}
		same(t, c, d, want, calls)
	}
}

// P9.1: Get tells an entry as long as it is live, to the tick; its key stays.
func TestGet(t *testing.T) {
	c := open(t, dev.New(100), 0, 12)
	ends := map[string]int64{"none": 0, "one": 1, "some": 77, "last": 1 << 40}
	for key, end := range ends {
		c.Put(api.Item{Key: key, Val: "v " + key, End: end})
	}
	for key, end := range ends {
		for _, now := range []int64{math.MinInt64, -1, 0, 1, 2, 76, 77, 78, 1<<40 - 1, 1 << 40, 1<<40 + 1, math.MaxInt64} {
			want := api.Item{Key: key, Val: "v " + key, End: end}
			live := end == 0 || end > now
			if !live {
				want = api.Item{}
			}
			if x, ok := c.Get(key, now); x != want || ok != live {
				t.Errorf("P9.1: Get(%q, %d): %v, %v, want %v, %v", key, now, x, ok, want, live)
			}
		}
	}
	for _, key := range append(badKeys, "non", "nonee", "None", "none\x00") {
		if x, ok := c.Get(key, 0); x != (api.Item{}) || ok {
			t.Errorf("P9.1: Get(%.50q): %v, %v", key, x, ok)
		}
	}
	if keys := c.Keys(); !slices.Equal(keys, []string{"last", "none", "one", "some"}) {
		t.Errorf("P9.1: Keys, live or not: %q", keys)
	}
}

// P9.1: Drop takes just its keys away, be they there or not, live or not, or told twice.
func TestDrop(t *testing.T) {
	d := dev.New(100)
	c := open(t, d, 0, 12)
	for k, keys := range [][]string{nil, {}, {"b"}, {"q"}, {"a", "a"}, {"c", "q", "over", "c"}, {strings.Repeat("k", 40)}, {"e", "d", "f"}} {
		want := map[string]api.Item{}
		for _, key := range []string{"a", "b", "c", "d", "e", "f", strings.Repeat("k", 40)} {
			want[key] = sum(key, fmt.Sprint(k))
		}
		want["over"] = api.Item{Key: "over", End: 1}
		for _, x := range want {
			c.Put(x)
		}
		if err := c.Drop(keys...); err != api.OK || len(d.Loose()) != 0 {
			t.Errorf("P9.1: Drop(%q): %v; loose: %v", keys, err, d.Loose())
		}
		for _, key := range keys {
			delete(want, key)
		}
		if got := told(t, c); !maps.Equal(got, want) {
			t.Errorf("P9.1: behind Drop(%q): %v, want %v", keys, got, want)
		}
		if got := told(t, open(t, d.Crash(), 0, 12)); !maps.Equal(got, want) {
			t.Errorf("P9.3: behind Drop(%q) and a crash: %v, want %v", keys, got, want)
		}
	}
}

// P9.1: ErrForm of Drop, wherever the bad key stands, and nothing has changed.
func TestDropForm(t *testing.T) {
	d := dev.New(100)
	c := open(t, d, 0, 12)
	c.Put(sum("a", "1"))
	c.Put(sum("b", "2"))
	want, calls := told(t, c), d.Calls()
	for _, key := range badKeys {
		for _, keys := range [][]string{{key}, {key, "a"}, {"a", key}, {"a", key, "b"}, {"b", "a", key}, {key, key}} {
			if err := c.Drop(keys...); err != api.ErrForm {
				t.Errorf("P9.1: Drop(%.60q): %v, want ErrForm", keys, err)
			}
			same(t, c, d, want, calls)
		}
	}
}

// P9.1: a Gone entry is appended for each key, whether it was there or not.
func TestDropAppends(t *testing.T) {
	m := newModel(t, 1, 12)
	m.put("a", 5)
	m.drop("never", "a")
	m.drop("a")
	var got []string
	for _, x := range m.records() {
		if x.Gone {
			got = append(got, x.Key)
		}
	}
	if !slices.Equal(got, []string{"never", "a", "a"}) {
		t.Errorf("P9.1: the log has Gone of %q", got)
	}
}

// P9.1: Wipe takes all away; what is put behind it stays.
func TestWipe(t *testing.T) {
	d := dev.New(100)
	c := open(t, d, 4, 12)
	for round := range 4 {
		if err := c.Wipe(); err != api.OK || len(told(t, c)) != 0 || len(d.Loose()) != 0 {
			t.Fatalf("P9.1: Wipe: %v, %q, loose: %v", err, c.Keys(), d.Loose())
		}
		if again := open(t, d.Crash(), 4, 12); len(told(t, again)) != 0 {
			t.Fatalf("P9.3: behind Wipe and a crash: %q", again.Keys())
		}
		want := map[string]api.Item{}
		for k := range round * 7 {
			x := sum(fmt.Sprint("k", k), fmt.Sprint("round ", round))
			want[x.Key] = x
			c.Put(x)
		}
		c.Drop("k3")
		delete(want, "k3")
		c.Put(sum("last", "1"))
		want["last"] = sum("last", "1")
		if got := told(t, c); !maps.Equal(got, want) {
			t.Fatalf("P9.1: behind Wipe: %v, want %v", got, want)
		}
	}
}

// between is what Between must tell of all entries there are.
func between(all map[string]api.Item, from, to uint64, after string, n int) []api.Item {
	var out []api.Item
	for _, key := range slices.Sorted(maps.Keys(all)) {
		if h := mix.Of(key); h >= from && h <= to && key > after && len(out) < n {
			out = append(out, all[key])
		}
	}
	return out
}

// P9.1: Between, held against all entries: every bound with it, keys rising and above after, at most n; over or not.
func TestBetween(t *testing.T) {
	c := open(t, dev.New(400), 0, 50)
	for k := range 60 {
		c.Put(api.Item{Key: fmt.Sprint(k%7, "key", k), Val: fmt.Sprint(k), End: int64(k % 3)})
	}
	c.Drop("0key0", "5key5", "5key12")
	all := told(t, c)
	bounds := []uint64{0, 1, 1 << 63, allHashes - 1, allHashes}
	afters := append([]string{"0", "3", "3key", "9", "\xff"}, badKeys...)
	for _, key := range []string{"0key7", "5key5", "3key10", "6key55"} {
		h := mix.Of(key)
		bounds = append(bounds, h-1, h, h+1)
		afters = append(afters, key, key+"\x00", key[:len(key)-1])
	}
	for _, from := range bounds {
		for _, to := range bounds {
			for _, after := range afters {
				for _, n := range []int{math.MinInt64, -1, 0, 1, 4, 56, 57, 58, math.MaxInt64} {
					if got, want := c.Between(from, to, after, n), between(all, from, to, after, n); !slices.Equal(got, want) {
						t.Fatalf("P9.1: Between(%x, %x, %.50q, %d): %v, want %v", from, to, after, n, got, want)
					}
				}
			}
		}
	}
}

// P9.1: by Between all entries are told once, part by part, as those do that move them.
func TestBetweenParts(t *testing.T) {
	c := open(t, dev.New(400), 0, 50)
	for k := range 90 {
		c.Put(sum(fmt.Sprint("k", k), "v"))
	}
	for _, n := range []int{1, 4, 89, 90} {
		var keys []string
		for _, part := range [][2]uint64{{0, 1<<62 - 1}, {1 << 62, 1 << 62}, {1<<62 + 1, allHashes}} {
			after := ""
			for range 91 {
				for _, x := range c.Between(part[0], part[1], after, n) {
					keys = append(keys, x.Key)
					after = x.Key
				}
			}
		}
		slices.Sort(keys)
		if !slices.Equal(keys, c.Keys()) {
			t.Errorf("P9.1: Between by %d tells %q, not %q", n, keys, c.Keys())
		}
	}
}

// P9.1: the sectors beside its own are not touched, and its own at either end of the device are enough.
func TestOwnSectors(t *testing.T) {
	const from, segs = 5, 3
	d := dev.New(from + segs*api.SegLen + 6)
	mark := strings.Repeat("\xee", api.Sector)
	for i := range d.Len() {
		d.Write(i, []byte(mark))
	}
	d.Flush()
	c := open(t, d, from, segs)
	if len(told(t, c)) != 0 {
		t.Errorf("P9.1: on a device of no log: %q", c.Keys())
	}
	for k := range 60 {
		c.Put(sum(fmt.Sprint("k", k%9), strings.Repeat("v", k*3)))
		if k%10 == 3 {
			c.Drop("k1", "k2")
		}
		if k == 33 {
			c.Wipe()
		}
	}
	for i := range d.Len() {
		if b, _ := d.Read(i); (i < from || i >= from+segs*api.SegLen) && string(b) != mark {
			t.Errorf("P9.1: the sector %d was written", i)
		}
	}
}

// P9.1: records that no cache wrote are as if they were not there, and stay no hindrance.
func TestOtherRecords(t *testing.T) {
	d := dev.New(160)
	l, _ := slog.Open(d, 0, 20)
	gone := api.Item{Key: "b", Gone: true}
	for _, body := range []string{"a", "\x02", "\x00\x00\x00", string(item.Encode(sum("a", "1"))) + "\x00", string(item.Encode(sum("a", "2"), sum("b", "3"))), string(item.Encode(sum("b", "4"), gone)), string(item.Encode(gone))[1:], strings.Repeat("\xff", 300)} {
		l.Append([]byte(body))
	}
	c := open(t, d, 0, 20)
	if got := told(t, c); len(got) != 0 {
		t.Errorf("P9.1: of other records: %v", got)
	}
	c.Put(sum("a", "5"))
	c.Put(sum("b", "6"))
	c.Flush()
	if got := told(t, open(t, d.Crash(), 0, 20)); !maps.Equal(got, map[string]api.Item{"a": sum("a", "5"), "b": sum("b", "6")}) {
		t.Errorf("P9.3: behind other records: %v", got)
	}
}

// P9.3: a nil *Cache, and one that Open did not make, whatever it is told.
func TestNil(t *testing.T) {
	for _, c := range []*flash.Cache{nil, {}} {
		for name, err := range map[string]api.Errno{
			"Put":          c.Put(sum("a", "1")),
			"Put of a bad": c.Put(api.Item{}),
			"Drop":         c.Drop("a"),
			"Drop of none": c.Drop(),
			"Drop of bad":  c.Drop(""),
			"Flush":        c.Flush(),
			"Wipe":         c.Wipe(),
		} {
			if err != api.ErrDown {
				t.Errorf("P9.3: %s of a nil *Cache: %v", name, err)
			}
		}
		if x, ok := c.Get("a", 0); ok || x != (api.Item{}) {
			t.Errorf("P9.3: Get of a nil *Cache: %v", x)
		}
		if keys, all := c.Keys(), c.Between(0, allHashes, "", 9); len(keys)+len(all) != 0 {
			t.Errorf("P9.3: of a nil *Cache: %q, %v", keys, all)
		}
	}
}

// P0.3: what is answered is new memory, and what is handed in is neither changed nor kept.
func TestNewMemory(t *testing.T) {
	c := open(t, dev.New(200), 0, 20)
	for _, key := range []string{"a", "b", "c", "d"} {
		c.Put(sum(key, "v"))
	}
	want := told(t, c)
	keys, again := c.Keys(), c.Keys()
	all, other := c.Between(0, allHashes, "", 9), c.Between(0, allHashes, "", 9)
	clear(keys[:cap(keys)])
	clear(all[:cap(all)])
	if !slices.Equal(again, c.Keys()) || !slices.Equal(other, c.Between(0, allHashes, "", 9)) || !maps.Equal(told(t, c), want) {
		t.Error("P0.3: an answer shares memory")
	}
	room := []string{"b", "d", "x", "y"}
	if err := c.Drop(room[:2]...); err != api.OK || !slices.Equal(room, []string{"b", "d", "x", "y"}) {
		t.Errorf("P0.3: Drop changed its list: %q", room)
	}
	clear(room)
	if !slices.Equal(c.Keys(), []string{"a", "c"}) {
		t.Errorf("P0.3: Drop kept its list: %q", c.Keys())
	}
}

// P0.5: two caches that are told the same answer the same, whatever is asked in between; asking writes nothing.
func TestSameAnswers(t *testing.T) {
	d, e := dev.New(100), dev.New(100)
	c, other := open(t, d, 0, 5), open(t, e, 0, 5)
	r := rand.New(rand.NewPCG(9, 5))
	for k := range 300 {
		key, val := fmt.Sprint("k", r.IntN(9)), strings.Repeat("v", r.IntN(100))
		switch {
		case k%50 == 49:
			c.Wipe()
			other.Wipe()
		case k%5 == 4:
			c.Drop(key)
			other.Drop(key)
		default:
			c.Put(sum(key, val))
			other.Put(sum(key, val))
		}
		calls := d.Calls()
		if one := told(t, c); k%7 == 0 && !maps.Equal(one, told(t, other)) {
			t.Fatalf("P0.5: %v and %v", one, told(t, other))
		}
		if d.Calls() != calls || e.Calls() != calls {
			t.Fatalf("P0.5: %d and %d calls, ahead of asking %d", d.Calls(), e.Calls(), calls)
		}
	}
}

// P0.1: a great many keys in one list, which the log has no room for.
func TestLongLists(t *testing.T) {
	m := newModel(t, 0, 4)
	m.put("k7", 30)
	keys := make([]string, 5000)
	for k := range keys {
		keys[k] = fmt.Sprint("k", k)
	}
	m.drop(keys...)
	m.forks(func(f *model) {
		f.put("k7", 30)
		f.flush()
		f.crash()
	})
}
