package plan_test

import (
	"math"
	"math/rand/v2"
	"slices"
	"testing"

	"icehouse/api"
	"icehouse/mix"
	"icehouse/plan"
	"icehouse/ring"
)

const (
	edge     = 1 << 40
	greatest = math.MaxUint64
)

// The references below are written from the chapters: they know no ring, and ask at each hash where something may change.

// pair is who owns a hash before and behind a change.
type pair struct{ src, dst int }

// refOwner is the node with the shortest way from h on, round the ring, to a point of its own.
func refOwner(nodes []int, h uint64) int {
	owner, way := 0, uint64(0)
	for _, node := range nodes {
		for i := range 8 {
			if w := mix.Point(node, i) - h; owner == 0 || w < way {
				owner, way = node, w
			}
		}
	}
	return owner
}

func refPair(a, b []int, h uint64) pair { return pair{refOwner(a, h), refOwner(b, h)} }

// refOf finds where parts begin and where they end, each by itself.
func refOf(a, b []int) []api.Move {
	var begins, ends []uint64
	for _, h := range cuts() {
		here := refPair(a, b, h)
		if here.src == here.dst {
			continue
		}
		if h == 0 || refPair(a, b, h-1) != here {
			begins = append(begins, h)
		}
		if h == greatest || refPair(a, b, h+1) != here {
			ends = append(ends, h)
		}
	}
	out := make([]api.Move, len(begins))
	for i, h := range begins {
		p := refPair(a, b, h)
		out[i] = api.Move{From: h, To: ends[i], Src: p.src, Dst: p.dst}
	}
	return out
}

// cuts are the hashes at both ends, and those at and about each point of all five nodes: rising, each once.
func cuts() []uint64 {
	out := []uint64{0, 1, 1<<63 - 1, 1 << 63, greatest - 1, greatest}
	for node := 1; node <= 5; node++ {
		for i := range 8 {
			at := mix.Point(node, i)
			out = append(out, at-1, at, at+1)
		}
	}
	slices.Sort(out)
	return slices.Compact(out)
}

// row is a part, in short.
type row struct {
	from, to uint64
	src, dst int
}

// moves are the parts that the rows tell.
func moves(rows []row) []api.Move {
	var out []api.Move
	for _, r := range rows {
		out = append(out, api.Move{From: r.from, To: r.to, Src: r.src, Dst: r.dst})
	}
	return out
}

// subsets are the lists of nodes that may be.
func subsets() [][]int {
	var out [][]int
	for bits := 1; bits < 32; bits++ {
		var nodes []int
		for node := 1; node <= 5; node++ {
			if bits>>(node-1)&1 == 1 {
				nodes = append(nodes, node)
			}
		}
		out = append(out, nodes)
	}
	return out
}

// odd are nodes that are there, and those that never are.
func odd() []int {
	return []int{0, 1, 2, 3, 4, 5, 6, 7, -1, -5, 255, 257, 1<<32 + 1, 1<<32 + 5, math.MaxInt - 1, math.MaxInt, math.MinInt, math.MinInt + 1}
}

// checkShape holds a plan's parts against the chapter's words about their order and their length.
func checkShape(t *testing.T, a, b []int, l []api.Move) {
	t.Helper()
	for i, m := range l {
		if m.From > m.To || m.Src == m.Dst {
			t.Errorf("P15.1: Of(%v, %v): part %d is none: %x", a, b, i, m)
		}
		if i == 0 {
			continue
		}
		p := l[i-1]
		if p.To >= m.From {
			t.Errorf("P15.1: Of(%v, %v): part %d does not rise: %x, %x", a, b, i, p, m)
		}
		if p.To+1 == m.From && p.Src == m.Src && p.Dst == m.Dst {
			t.Errorf("P15.1: Of(%v, %v): part %d is not as long as it goes: %x, %x", a, b, i-1, p, m)
		}
	}
}

// checkHash holds what a plan says of one hash against both its owners.
func checkHash(t *testing.T, a, b []int, l []api.Move, h uint64) {
	t.Helper()
	want := refPair(a, b, h)
	m, ok := plan.Covers(l, h)
	if ok != (want.src != want.dst) {
		t.Errorf("P15.1: Of(%v, %v): %#x is in a part: %v, owners %v", a, b, h, ok, want)
	}
	if ok && (m.Src != want.src || m.Dst != want.dst || h < m.From || h > m.To) {
		t.Errorf("P15.1: Of(%v, %v): %#x is in %x, owners %v", a, b, h, m, want)
	}
	if !ok && m != (api.Move{}) {
		t.Errorf("P0.2: Covers(%#x): %x beside false", h, m)
	}
}

// P15.1: plans by hand: a node that comes, one that goes, others in its place; parts at both ends, which do not go round.
func TestOfKnown(t *testing.T) {
	for _, c := range []struct {
		a, b []int
		want []row
	}{
		{[]int{1}, []int{1}, nil},
		{[]int{1, 2, 3, 4, 5}, []int{1, 2, 3, 4, 5}, nil},
		{[]int{1}, []int{2}, []row{{0, greatest, 1, 2}}},
		{[]int{5}, []int{4}, []row{{0, greatest, 5, 4}}},
		{[]int{1, 2}, []int{1, 2, 3}, []row{
			{0, 0x16a4f656425e235a, 1, 3},
			{0x3062b38e1d1561f9, 0x42fc73883aa8f0eb, 2, 3},
			{0x8f95237e0a49a631, 0xa56cc012a18977d1, 1, 3},
			{0xcb31dc972061e1e4, 0xd47f06d0393f433a, 1, 3},
			{0xfaa7327e11fbe5a0, greatest, 1, 3},
		}},
		{[]int{1, 2, 3}, []int{1, 2}, []row{
			{0, 0x16a4f656425e235a, 3, 1},
			{0x3062b38e1d1561f9, 0x42fc73883aa8f0eb, 3, 2},
			{0x8f95237e0a49a631, 0xa56cc012a18977d1, 3, 1},
			{0xcb31dc972061e1e4, 0xd47f06d0393f433a, 3, 1},
			{0xfaa7327e11fbe5a0, greatest, 3, 1},
		}},
		{[]int{1}, []int{2, 3}, []row{
			{0, 0x16a4f656425e235a, 1, 3},
			{0x16a4f656425e235b, 0x3062b38e1d1561f8, 1, 2},
			{0x3062b38e1d1561f9, 0x42fc73883aa8f0eb, 1, 3},
			{0x42fc73883aa8f0ec, 0x8f95237e0a49a630, 1, 2},
			{0x8f95237e0a49a631, 0xa56cc012a18977d1, 1, 3},
			{0xa56cc012a18977d2, 0xcb31dc972061e1e3, 1, 2},
			{0xcb31dc972061e1e4, 0xd47f06d0393f433a, 1, 3},
			{0xd47f06d0393f433b, 0xf09ebd16fbe24387, 1, 2},
			{0xf09ebd16fbe24388, greatest, 1, 3},
		}},
		{[]int{1, 3, 4}, []int{1, 3, 4, 5}, []row{
			{0x07f5d5ba2c2737cd, 0x0c0c2df4e54ac5ac, 4, 5},
			{0x11f5f622f0259b52, 0x135d80fd1f90655b, 3, 5},
			{0x60c5671c3a2ac3f2, 0x9f0bb0d8dc0e01c4, 3, 5},
			{0xd508a252d303ff0a, 0xd7a3bcbffa81300e, 1, 5},
			{0xdc319a7819969f14, 0xf5c02d0e3bad5f37, 1, 5},
		}},
	} {
		if got := plan.Of(ring.New(1, c.a...), ring.New(2, c.b...)); !slices.Equal(got, moves(c.want)) {
			t.Errorf("P15.1: Of(%v, %v): %x, want %x", c.a, c.b, got, moves(c.want))
		}
	}
}

// P15.1: plans between all rings that may be; the epochs count for nothing.
func TestOfReference(t *testing.T) {
	all := cuts()
	for _, a := range subsets() {
		for _, b := range subsets() {
			got, want := plan.Of(ring.New(1, a...), ring.New(edge, b...)), refOf(a, b)
			if !slices.Equal(got, want) || len(want) == 0 && got != nil {
				t.Errorf("P15.1: Of(%v, %v): %x, want %x", a, b, got, want)
			}
			if other := plan.Of(ring.New(7, a...), ring.New(7, b...)); !slices.Equal(other, want) {
				t.Errorf("P15.1: Of(%v, %v) within one epoch: %x, want %x", a, b, other, want)
			}
			checkShape(t, a, b, got)
			for _, h := range all {
				checkHash(t, a, b, got, h)
			}
		}
	}
}

// P15.1: hashes drawn at random are in just the part of both their owners.
func TestOfDrawnHashes(t *testing.T) {
	r := rand.New(rand.NewPCG(15, 1))
	lists := subsets()
	for range 300 {
		a, b := lists[r.IntN(len(lists))], lists[r.IntN(len(lists))]
		l := plan.Of(ring.New(4, a...), ring.New(5, b...))
		for range 100 {
			checkHash(t, a, b, l, r.Uint64()>>(r.IntN(2)*r.IntN(64)))
		}
	}
}

// P15.1: what moves there moves back: the same parts, the other way.
func TestOfBack(t *testing.T) {
	for _, a := range subsets() {
		for _, b := range subsets() {
			there := plan.Of(ring.New(1, a...), ring.New(2, b...))
			back := plan.Of(ring.New(2, b...), ring.New(3, a...))
			for i := range back {
				back[i].Src, back[i].Dst = back[i].Dst, back[i].Src
			}
			if !slices.Equal(there, back) {
				t.Errorf("P15.1: %v to %v: %x, and back: %x", a, b, there, back)
			}
		}
	}
}

// P15.1: nil: one is nil, or nothing moves.
func TestOfNil(t *testing.T) {
	var none *ring.Ring
	for _, nodes := range subsets() {
		r := ring.New(3, nodes...)
		for name, l := range map[string][]api.Move{
			"nil, r":       plan.Of(nil, r),
			"r, nil":       plan.Of(r, none),
			"New of 0, r":  plan.Of(ring.New(0, nodes...), r),
			"r, itself":    plan.Of(r, r),
			"r, the same":  plan.Of(r, ring.New(3, nodes...)),
			"r, its later": plan.Of(r, ring.New(edge, nodes...)),
		} {
			if l != nil {
				t.Errorf("P15.1: Of(%s) of %v: %x, want nil", name, nodes, l)
			}
		}
	}
	if plan.Of(nil, nil) != nil || plan.Of(none, none) != nil {
		t.Error("P15.1: Of(nil, nil) is not nil")
	}
}

// P0.1, P15.1: a ring that New did not make is not nil; its owner of all hashes is 0.
func TestOfZeroRing(t *testing.T) {
	if l := plan.Of(&ring.Ring{}, &ring.Ring{}); l != nil {
		t.Errorf("P15.1: Of two Ring{}: %x, want nil", l)
	}
	for _, nodes := range subsets() {
		r := ring.New(3, nodes...)
		if got, want := plan.Of(&ring.Ring{}, r), refOf(nil, nodes); !slices.Equal(got, want) {
			t.Errorf("P15.1: Of(Ring{}, %v): %x, want %x", nodes, got, want)
		}
		if got, want := plan.Of(r, &ring.Ring{}), refOf(nodes, nil); !slices.Equal(got, want) {
			t.Errorf("P15.1: Of(%v, Ring{}): %x, want %x", nodes, got, want)
		}
	}
}

// drawnMoves are parts of any kind, also such as no plan has: out of order, one over another, To ahead of From.
func drawnMoves(r *rand.Rand, n int) []api.Move {
	all, nodes := cuts(), odd()
	out := make([]api.Move, n)
	for i := range out {
		out[i] = api.Move{
			From: all[r.IntN(len(all))], To: all[r.IntN(len(all))],
			Src: nodes[r.IntN(len(nodes))], Dst: nodes[r.IntN(len(nodes))],
		}
	}
	return out
}

// refFrom and refTo take away all others.
func refFrom(l []api.Move, node int) []api.Move {
	return slices.DeleteFunc(slices.Clone(l), func(m api.Move) bool { return m.Src != node })
}

func refTo(l []api.Move, node int) []api.Move {
	return slices.DeleteFunc(slices.Clone(l), func(m api.Move) bool { return m.Dst != node })
}

// checkThose holds From and To of a list against the chapter, for all nodes.
func checkThose(t *testing.T, l []api.Move) {
	t.Helper()
	for _, node := range odd() {
		if got, want := plan.From(l, node), refFrom(l, node); !slices.Equal(got, want) {
			t.Errorf("P15.1: From(%x, %d): %x, want %x", l, node, got, want)
		}
		if got, want := plan.To(l, node), refTo(l, node); !slices.Equal(got, want) {
			t.Errorf("P15.1: To(%x, %d): %x, want %x", l, node, got, want)
		}
	}
}

// P15.1: From and To, by hand: in order, also of nodes that may not be, and of none.
func TestFromToKnown(t *testing.T) {
	one, two, three := api.Move{From: 7, To: 9, Src: 1, Dst: 2}, api.Move{From: 10, To: 12, Src: 2, Dst: 1}, api.Move{From: 13, To: 13, Src: 1, Dst: 3}
	l := []api.Move{one, two, three, one}
	for _, c := range []struct {
		node     int
		from, to []api.Move
	}{
		{1, []api.Move{one, three, one}, []api.Move{two}},
		{2, []api.Move{two}, []api.Move{one, one}},
		{3, nil, []api.Move{three}},
		{0, nil, nil},
		{-1, nil, nil},
		{1<<32 + 1, nil, nil},
		{math.MaxInt, nil, nil},
		{math.MinInt, nil, nil},
	} {
		if got := plan.From(l, c.node); !slices.Equal(got, c.from) {
			t.Errorf("P15.1: From(%d): %x, want %x", c.node, got, c.from)
		}
		if got := plan.To(l, c.node); !slices.Equal(got, c.to) {
			t.Errorf("P15.1: To(%d): %x, want %x", c.node, got, c.to)
		}
	}
}

// P15.1: From and To of all plans, and of lists that are none.
func TestFromToReference(t *testing.T) {
	for _, a := range subsets() {
		for _, b := range subsets() {
			checkThose(t, plan.Of(ring.New(1, a...), ring.New(2, b...)))
		}
	}
	r := rand.New(rand.NewPCG(15, 2))
	for range 500 {
		checkThose(t, drawnMoves(r, r.IntN(30)))
	}
	checkThose(t, nil)
	checkThose(t, []api.Move{{}})
	checkThose(t, make([]api.Move, 1<<12))
}

// P15.1: Covers, by hand: both From and To are of the part, what is between parts is of none.
func TestCoversKnown(t *testing.T) {
	low, mid, high := api.Move{From: 0, To: 4, Src: 1, Dst: 2}, api.Move{From: 9, To: 9, Src: 3, Dst: 2}, api.Move{From: 10, To: greatest, Src: 2, Dst: 1}
	l := []api.Move{low, mid, high}
	for _, c := range []struct {
		h    uint64
		want api.Move
		ok   bool
	}{
		{0, low, true},
		{1, low, true},
		{4, low, true},
		{5, api.Move{}, false},
		{8, api.Move{}, false},
		{9, mid, true},
		{10, high, true},
		{1 << 63, high, true},
		{greatest - 1, high, true},
		{greatest, high, true},
	} {
		if got, ok := plan.Covers(l, c.h); got != c.want || ok != c.ok {
			t.Errorf("P15.1: Covers(%#x): %x %v, want %x %v", c.h, got, ok, c.want, c.ok)
		}
	}
	for _, h := range cuts() {
		for _, l := range [][]api.Move{nil, {}, {{From: 5, To: 4, Src: 1, Dst: 2}}, {{From: greatest, To: 0, Src: 1, Dst: 2}}} {
			if got, ok := plan.Covers(l, h); ok || got != (api.Move{}) {
				t.Errorf("P15.1: Covers(%x, %#x): %x %v", l, h, got, ok)
			}
		}
	}
}

// P15.1: Covers of lists that are no plans: some part that has the hash, if there is one, and of several the first.
func TestCoversDrawn(t *testing.T) {
	r := rand.New(rand.NewPCG(15, 3))
	for range 500 {
		l := drawnMoves(r, r.IntN(12))
		for _, h := range cuts() {
			i := slices.IndexFunc(l, func(m api.Move) bool { return h >= m.From && h-m.From <= m.To-m.From && m.From <= m.To })
			var want api.Move
			if i >= 0 {
				want = l[i]
			}
			if got, ok := plan.Covers(l, h); got != want || ok != (i >= 0) {
				t.Errorf("P15.1: Covers(%x, %#x): %x %v, want %x", l, h, got, ok, want)
			}
		}
	}
}

// spoil writes into a list and into its spare room.
func spoil(l []api.Move) {
	l = l[:cap(l)]
	for i := range l {
		l[i] = api.Move{From: 1, To: 2, Src: 8, Dst: 9}
	}
}

// P0.3: a list that is handed in is not changed, its spare room neither; what is answered is new memory.
func TestMemory(t *testing.T) {
	a, b := ring.New(1, 1, 2, 4), ring.New(2, 2, 3)
	want := refOf([]int{1, 2, 4}, []int{2, 3})
	room := append(plan.Of(a, b), api.Move{From: 3, To: 5, Src: 1, Dst: 2}, api.Move{})
	was := slices.Clone(room)
	l := room[: len(want)-1 : len(room)]
	for node := range 6 {
		from, to := plan.From(l, node), plan.To(l, node)
		plan.Covers(l, mix.Point(3, node))
		keep := slices.Clone(to)
		spoil(from)
		if !slices.Equal(to, keep) {
			t.Errorf("P0.3: From of %d shares memory with To", node)
		}
		spoil(to)
		if !slices.Equal(room, was) {
			t.Fatalf("P0.3: %x was changed to %x", was, room)
		}
		if !slices.Equal(plan.From(l, node), refFrom(l, node)) || !slices.Equal(plan.To(l, node), refTo(l, node)) {
			t.Errorf("P0.3: a written-into answer of %d changed a later one", node)
		}
	}
	spoil(plan.Of(a, b))
	if got := plan.Of(a, b); !slices.Equal(got, want) {
		t.Errorf("P0.3: behind a written-into answer: %x, want %x", got, want)
	}
	if !slices.Equal(a.Nodes(), []int{1, 2, 4}) || !slices.Equal(b.Nodes(), []int{2, 3}) {
		t.Errorf("P0.3: the rings were changed: %v, %v", a.Nodes(), b.Nodes())
	}
}
