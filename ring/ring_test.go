package ring_test

import (
	"math"
	"math/rand/v2"
	"slices"
	"strconv"
	"strings"
	"testing"

	"icehouse/mix"
	"icehouse/points"
	"icehouse/ring"
)

const edge = 1 << 40

// The references below are written from the chapter, and search no list of sorted points.

// refMay is a sorted list without doubles, of 1 to 5, which is not empty.
func refMay(nodes []int) bool {
	sorted := slices.Clone(nodes)
	slices.Sort(sorted)
	sorted = slices.Compact(sorted)
	return len(nodes) > 0 && slices.Equal(sorted, nodes) && sorted[0] >= 1 && sorted[len(sorted)-1] <= 5
}

// refOwner is the node with the shortest way from h on, round the ring, to a point of its own.
func refOwner(nodes []int, h uint64) int {
	owner, way := 0, uint64(0)
	for _, node := range nodes {
		for i := range 8 {
			if w := mix.Point(node, i) - h; owner == 0 || w < way {
				owner, way = node, w
			}
		}
	}
	return owner
}

// subsets are the lists of nodes that may be.
func subsets() [][]int {
	var out [][]int
	for bits := 1; bits < 32; bits++ {
		var nodes []int
		for node := 1; node <= 5; node++ {
			if bits>>(node-1)&1 == 1 {
				nodes = append(nodes, node)
			}
		}
		out = append(out, nodes)
	}
	return out
}

// odd are nodes that are there, and those that never are.
func odd() []int {
	return []int{0, 1, 2, 3, 4, 5, 6, 7, -1, -5, 255, 257, 1<<32 + 1, 1<<32 + 5, math.MaxInt - 1, math.MaxInt, math.MinInt, math.MinInt + 1}
}

// hashes are those about each point of all five nodes, those at the ends and in the middle, and drawn ones.
func hashes() []uint64 {
	out := []uint64{0, 1, 2, 1<<32 - 1, 1 << 32, 1<<63 - 1, 1 << 63, 1<<63 + 1, math.MaxUint64 - 1, math.MaxUint64}
	for node := 1; node <= 5; node++ {
		for i := range 8 {
			at := mix.Point(node, i)
			out = append(out, at-1, at, at+1, at^1<<63, at>>1)
		}
	}
	r := rand.New(rand.NewPCG(14, 1))
	for range 200 {
		out = append(out, r.Uint64(), r.Uint64()>>r.IntN(64))
	}
	return out
}

// brief is the beginning of a list, for what a test tells of a very long one.
func brief(nodes []int) []int { return nodes[:min(len(nodes), 9)] }

// checkNew holds New of one epoch and one list against the chapter.
func checkNew(t *testing.T, epoch int64, nodes []int) {
	t.Helper()
	was := slices.Clone(nodes)
	want := epoch >= 1 && epoch <= edge && refMay(nodes)
	r := ring.New(epoch, nodes...)
	if (r != nil) != want {
		t.Errorf("P14.1: New(%d, %v): a ring is %v, want %v", epoch, brief(was), r != nil, want)
	}
	if r != nil && (r.Epoch() != epoch || !slices.Equal(r.Nodes(), was)) {
		t.Errorf("P14.1: New(%d, %v): epoch %d, nodes %v", epoch, brief(was), r.Epoch(), r.Nodes())
	}
	if !slices.Equal(nodes, was) {
		t.Errorf("P0.3: %v was changed to %v", brief(was), brief(nodes))
	}
}

// checkNone holds a ring that is none against the chapter.
func checkNone(t *testing.T, name string, r *ring.Ring) {
	t.Helper()
	if r.Epoch() != 0 || r.Nodes() != nil {
		t.Errorf("P14.1: %s: epoch %d, nodes %v", name, r.Epoch(), r.Nodes())
	}
	for _, h := range hashes() {
		if got := r.Owner(h); got != 0 {
			t.Errorf("P14.1: %s: Owner(%#x): %d", name, h, got)
		}
	}
	for _, key := range []string{"", "a", "\xff\x00", strings.Repeat("k", 1<<16)} {
		if got := r.Of(key); got != 0 {
			t.Errorf("P14.1: %s: Of(%.9q): %d", name, key, got)
		}
	}
	for _, node := range odd() {
		if r.Has(node) {
			t.Errorf("P14.1: %s has %d", name, node)
		}
	}
}

// P14.1: New, by hand: epochs about 1 and 2^40, and nodes that may not be.
func TestNewKnown(t *testing.T) {
	for _, c := range []struct {
		epoch int64
		nodes []int
		want  bool
	}{
		{1, []int{1}, true},
		{2, []int{1, 2, 3, 4, 5}, true},
		{edge - 1, []int{2, 5}, true},
		{edge, []int{5}, true},
		{edge + 1, []int{5}, false},
		{0, []int{1}, false},
		{-1, []int{1}, false},
		{-edge, []int{1}, false},
		{math.MaxInt64, []int{1}, false},
		{math.MinInt64, []int{1}, false},
		{math.MinInt64 + 1, []int{1}, false},
		{1, nil, false},
		{1, []int{}, false},
		{1, []int{0}, false},
		{1, []int{6}, false},
		{1, []int{-1, 1}, false},
		{1, []int{2, 1}, false},
		{1, []int{2, 2}, false},
		{1, []int{1, 2, 3, 4, 5, 6}, false},
		{1, []int{1<<32 + 1}, false},
		{0, nil, false},
		{edge + 1, []int{2, 1}, false},
	} {
		if got := ring.New(c.epoch, c.nodes...); (got != nil) != c.want {
			t.Errorf("P14.1: New(%d, %v): a ring is %v", c.epoch, c.nodes, got != nil)
		}
		checkNew(t, c.epoch, c.nodes)
	}
}

// P14.1: New of all lists of up to six nodes about the limits, and of epochs about theirs.
func TestNewAllLists(t *testing.T) {
	lists := [][]int{nil}
	for begin := 0; len(lists[begin]) < 6; begin++ {
		for node := 0; node <= 6; node++ {
			lists = append(lists, append(slices.Clone(lists[begin]), node))
		}
	}
	for _, nodes := range lists {
		checkNew(t, edge, nodes)
	}
	for _, nodes := range subsets() {
		for _, epoch := range []int64{math.MinInt64, -edge, -1, 0, 1, 2, 1<<32 + 7, edge - 1, edge, edge + 1, math.MaxInt64} {
			checkNew(t, epoch, nodes)
		}
	}
}

// P14.1: New of lists drawn at random, of odd numbers, and of very long ones.
func TestNewDrawnLists(t *testing.T) {
	r := rand.New(rand.NewPCG(14, 2))
	all := odd()
	for range 5000 {
		nodes := make([]int, r.IntN(8))
		for i := range nodes {
			nodes[i] = all[r.IntN(len(all))]
		}
		checkNew(t, 1+r.Int64N(edge), nodes)
		slices.Sort(nodes)
		checkNew(t, 1+r.Int64N(edge), nodes)
	}
	checkNew(t, 1, slices.Repeat([]int{1, 2, 3, 4, 5}, 1<<18))
	rising := make([]int, 1<<20)
	for i := range rising {
		rising[i] = i + 1
	}
	checkNew(t, 1, rising)
}

// P14.1: owners by hand, of points that were worked out apart from the program: at a point, ahead of it, behind it, and round.
func TestOwnerKnown(t *testing.T) {
	for _, c := range []struct {
		nodes []int
		h     uint64
		want  int
	}{
		{[]int{1, 2, 3, 4, 5}, 0, 4},
		{[]int{1, 2, 3, 4, 5}, 0x07f5d5ba2c2737cb, 4},
		{[]int{1, 2, 3, 4, 5}, 0x07f5d5ba2c2737cc, 4},
		{[]int{1, 2, 3, 4, 5}, 0x07f5d5ba2c2737cd, 5},
		{[]int{1, 2, 3, 4, 5}, 0x0c0c2df4e54ac5ac, 5},
		{[]int{1, 2, 3, 4, 5}, 0x0c0c2df4e54ac5ad, 4},
		{[]int{1, 2, 3, 4, 5}, 0x18aa0cfb6a553592, 2},
		{[]int{1, 2, 3, 4, 5}, 0x7fffffffffffffff, 2},
		{[]int{1, 2, 3, 4, 5}, 0x8000000000000000, 2},
		{[]int{1, 2, 3, 4, 5}, 0xfaa7327e11fbe59f, 1},
		{[]int{1, 2, 3, 4, 5}, 0xfaa7327e11fbe5a0, 3},
		{[]int{1, 2, 3, 4, 5}, 0xfcb3fc0d5ecd9ac5, 3},
		{[]int{1, 2, 3, 4, 5}, 0xfcb3fc0d5ecd9ac6, 4},
		{[]int{1, 2, 3, 4, 5}, math.MaxUint64, 4},
		{[]int{1, 2}, 0, 1},
		{[]int{1, 2}, 0x18aa0cfb6a553592, 2},
		{[]int{1, 2}, 0xade739af58196083, 1},
		{[]int{1, 2}, 0xade739af58196084, 1},
		{[]int{1, 2}, 0xc1fd756f0b09cdf4, 2},
		{[]int{1, 2}, 0xfaa7327e11fbe5a0, 1},
		{[]int{2, 5}, 0x135d80fd1f90655b, 5},
		{[]int{2, 5}, 0x135d80fd1f90655c, 2},
		{[]int{2, 5}, 0xf5c02d0e3bad5f37, 5},
		{[]int{2, 5}, 0xf5c02d0e3bad5f38, 5},
		{[]int{2, 3}, 0xfcb3fc0d5ecd9ac6, 3},
		{[]int{5}, 0, 5},
		{[]int{5}, 1 << 63, 5},
		{[]int{5}, math.MaxUint64, 5},
		{[]int{1}, 0xfaa7327e11fbe5a0, 1},
	} {
		if got := ring.New(7, c.nodes...).Owner(c.h); got != c.want {
			t.Errorf("P14.1: Owner(%#x) of %v: %d, want %d", c.h, c.nodes, got, c.want)
		}
	}
}

// P14.1: owners of all lists of nodes that may be, at hashes of all kinds; the epoch counts for nothing.
func TestOwnerReference(t *testing.T) {
	all := hashes()
	for _, nodes := range subsets() {
		one, other := ring.New(1, nodes...), ring.New(edge, nodes...)
		for _, h := range all {
			want := refOwner(nodes, h)
			if got := one.Owner(h); got != want {
				t.Errorf("P14.1: Owner(%#x) of %v: %d, want %d", h, nodes, got, want)
			}
			if got := other.Owner(h); got != want {
				t.Errorf("P14.1: Owner(%#x) of %v at another epoch: %d, want %d", h, nodes, got, want)
			}
		}
	}
}

// P14.1: from each point to the next one goes one part of the ring, whose owner is the later point's; the last part goes round.
func TestOwnerParts(t *testing.T) {
	for _, nodes := range subsets() {
		r := ring.New(3, nodes...)
		l := points.Of(nodes...)
		for i, p := range l {
			next := l[(i+1)%len(l)]
			way := next.At - p.At
			for _, h := range []uint64{p.At + 1, p.At + way/2, p.At + way/2 + 1, next.At - 1, next.At} {
				if got := r.Owner(h); got != next.Node {
					t.Errorf("P14.1: Owner(%#x) of %v, from %#x to %#x: %d, want %d", h, nodes, p.At, next.At, got, next.Node)
				}
			}
		}
	}
}

// P14.1: keys by hand: their hashes are those of one part, be it empty, no text or long.
func TestOfKnown(t *testing.T) {
	for _, c := range []struct {
		key       string
		all, some int // their owners among all five, and among 1, 3, 4
	}{
		{"", 2, 3},                        // 6602d201e324653f
		{"a", 2, 3},                       // 80c59ba6b9401362
		{"ab", 2, 3},                      // c2ac815b9168c00f
		{"\x00", 2, 3},                    // 71ce18fb748236fd
		{"\x00\x00", 5, 1},                // ddc5b403cb39644b
		{"\xff\xfe", 2, 3},                // 89ee6a0c05dc4c27
		{"é", 2, 3},                       // 2d9e8bf1e965bc20
		{"雪", 4, 4},                       // 4c6decad77f49229
		{strings.Repeat("x", 255), 2, 1},  // e79a7aa14170fa7b
		{strings.Repeat("x", 256), 1, 1},  // b9575e6ff023c272
		{strings.Repeat("x", 1000), 2, 3}, // c73434528285569c
		{"the key of a thing", 2, 3},      // 1abd33d60ac40335
	} {
		if got := ring.New(1, 1, 2, 3, 4, 5).Of(c.key); got != c.all {
			t.Errorf("P14.1: Of(%.20q) of all: %d, want %d", c.key, got, c.all)
		}
		if got := ring.New(1, 1, 3, 4).Of(c.key); got != c.some {
			t.Errorf("P14.1: Of(%.20q) of 1, 3, 4: %d, want %d", c.key, got, c.some)
		}
	}
}

// P14.1: Of is the Owner of the key's hash, of many keys on each ring.
func TestOfReference(t *testing.T) {
	keys := []string{"", "\x00", "\xff", strings.Repeat("k", 40), strings.Repeat("k", 41), strings.Repeat("k", 1<<16)}
	for i := range 300 {
		keys = append(keys, "key "+strconv.Itoa(i))
	}
	for _, nodes := range subsets() {
		r := ring.New(5, nodes...)
		for _, key := range keys {
			if got, want := r.Of(key), refOwner(nodes, mix.Of(key)); got != want || got != r.Owner(mix.Of(key)) {
				t.Errorf("P14.1: Of(%.20q) of %v: %d, want %d", key, nodes, got, want)
			}
		}
	}
}

// P14.1: Has is so of the ring's own nodes alone, each of which owns something.
func TestHas(t *testing.T) {
	for _, nodes := range subsets() {
		r := ring.New(1, nodes...)
		for _, node := range odd() {
			if got, want := r.Has(node), slices.Contains(nodes, node); got != want {
				t.Errorf("P14.1: Has(%d) of %v: %v", node, nodes, got)
			}
		}
		for _, node := range nodes {
			if r.Owner(mix.Point(node, 0)) != node {
				t.Errorf("P14.1: of %v the node %d does not own its point", nodes, node)
			}
		}
	}
}

// P14.1: a nil *Ring: 0, nil, false; and, so that no call panics (P0.1), one that New did not make.
func TestNone(t *testing.T) {
	var none *ring.Ring
	checkNone(t, "a nil *Ring", none)
	checkNone(t, "New of no epoch", ring.New(0, 1))
	checkNone(t, "New of no nodes", ring.New(1))
	checkNone(t, "a Ring{}", &ring.Ring{})
}

// P0.3: the nodes that are handed in are neither changed nor kept, the room behind them neither; what Nodes answers is new memory.
func TestMemory(t *testing.T) {
	room := []int{1, 3, 4, 2, 5}
	was := slices.Clone(room)
	r := ring.New(9, room[:3]...)
	other := ring.New(10, room[:3]...)
	if !slices.Equal(room, was) {
		t.Errorf("P0.3: %v was changed to %v", was, room)
	}
	copy(room, []int{2, 5, 2, 2, 2})
	one := r.Nodes()
	clear(one[:cap(one)])
	one = append(one[:1], 5, 5, 5)
	two := r.Nodes()
	two[1] = 2
	for _, x := range []*ring.Ring{r, other} {
		if !slices.Equal(x.Nodes(), was[:3]) || x.Has(0) || x.Has(2) || x.Has(5) || !x.Has(1) || !x.Has(3) || !x.Has(4) {
			t.Errorf("P0.3: behind a written-into answer %v: nodes %v", one, x.Nodes())
		}
		for _, h := range hashes() {
			if got, want := x.Owner(h), refOwner(was[:3], h); got != want {
				t.Errorf("P0.3: Owner(%#x): %d, want %d", h, got, want)
			}
		}
	}
	if r.Epoch() != 9 || other.Epoch() != 10 {
		t.Errorf("P14.1: epochs %d and %d, want 9 and 10", r.Epoch(), other.Epoch())
	}
}
