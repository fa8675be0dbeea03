package points_test

import (
	"cmp"
	"math"
	"math/rand/v2"
	"slices"
	"sort"
	"testing"

	"icehouse/mix"
	"icehouse/points"
)

// whole is the ring of all five nodes, worked out apart from the program.
func whole() []points.Pt {
	return []points.Pt{
		{0x07f5d5ba2c2737cc, 4}, {0x0c0c2df4e54ac5ac, 5}, {0x106bc4e19c54b12b, 4}, {0x11f5f622f0259b51, 3},
		{0x135d80fd1f90655b, 5}, {0x16a4f656425e235a, 3}, {0x1799496e16cffc95, 1}, {0x18aa0cfb6a553591, 1},
		{0x3062b38e1d1561f8, 2}, {0x42fc73883aa8f0eb, 3}, {0x451a1f20cd6b0702, 4}, {0x46a415953470027d, 4},
		{0x4dd85359a6487535, 4}, {0x5ceb2fd5733dfdbe, 4}, {0x60c5671c3a2ac3f1, 4}, {0x83faeadc16139be6, 2},
		{0x8f95237e0a49a630, 2}, {0x9e616be9d94b2962, 5}, {0x9f0bb0d8dc0e01c4, 5}, {0x9fecff90a3043b10, 3},
		{0xa56cc012a18977d1, 3}, {0xade739af58196083, 1}, {0xc1fd756f0b09cdf3, 1}, {0xc64e80edc3d55812, 2},
		{0xcb31dc972061e1e3, 2}, {0xd1b78032ec289022, 3}, {0xd47f06d0393f433a, 3}, {0xd508a252d303ff09, 4},
		{0xd63afcfbe3f08ed2, 5}, {0xd7a3bcbffa81300e, 5}, {0xdc319a7819969f13, 1}, {0xe51d396b46a3cbd3, 5},
		{0xef32e100a957ffef, 2}, {0xf040ec1b3c1dcc9e, 2}, {0xf09ebd16fbe24387, 2}, {0xf5c02d0e3bad5f37, 5},
		{0xf8f44f0188d7e7e0, 1}, {0xf96a8578e0a9a74f, 1}, {0xfaa7327e11fbe59f, 1}, {0xfcb3fc0d5ecd9ac5, 3},
	}
}

// refMay is written from the chapter: a sorted list without doubles, of 1 to 5, which is not empty.
func refMay(nodes []int) bool {
	sorted := slices.Clone(nodes)
	slices.Sort(sorted)
	sorted = slices.Compact(sorted)
	return len(nodes) > 0 && slices.Equal(sorted, nodes) && sorted[0] >= 1 && sorted[len(sorted)-1] <= 5
}

// refOf are the nodes' own points, sorted in a way of its own: by Node, then, so that equals stay as they lie, by At.
func refOf(nodes []int) []points.Pt {
	var out []points.Pt
	for _, node := range nodes {
		for i := range 8 {
			out = append(out, points.Pt{At: mix.Point(node, i), Node: node})
		}
	}
	sort.SliceStable(out, func(i, k int) bool { return out[i].Node < out[k].Node })
	sort.SliceStable(out, func(i, k int) bool { return out[i].At < out[k].At })
	return out
}

// brief is the beginning of a list, for what a test tells of a very long one.
func brief(nodes []int) []int { return nodes[:min(len(nodes), 9)] }

// check holds May and Of of one list against the chapter.
func check(t *testing.T, nodes []int) {
	t.Helper()
	was := slices.Clone(nodes)
	want := refMay(nodes)
	if got := points.May(nodes); got != want {
		t.Errorf("P13.1: May(%v): %v", brief(was), got)
	}
	got := points.Of(nodes...)
	if !want && got != nil {
		t.Errorf("P13.1: Of(%v): %d points, want nil", brief(was), len(got))
	}
	if want && !slices.Equal(got, refOf(nodes)) {
		t.Errorf("P13.1: Of(%v): %v, want %v", brief(was), got, refOf(nodes))
	}
	if !slices.Equal(nodes, was) {
		t.Errorf("P0.3: %v was changed to %v", brief(was), brief(nodes))
	}
}

// subsets are the lists of nodes that may be.
func subsets() [][]int {
	var out [][]int
	for bits := 1; bits < 32; bits++ {
		var nodes []int
		for node := 1; node <= 5; node++ {
			if bits>>(node-1)&1 == 1 {
				nodes = append(nodes, node)
			}
		}
		out = append(out, nodes)
	}
	return out
}

// P13.1: May, by hand: none, one, all, beyond the limits, falling, twice, too many.
func TestMayKnown(t *testing.T) {
	for _, c := range []struct {
		nodes []int
		want  bool
	}{
		{nil, false},
		{[]int{}, false},
		{[]int{1}, true},
		{[]int{5}, true},
		{[]int{0}, false},
		{[]int{6}, false},
		{[]int{-1}, false},
		{[]int{2, 5}, true},
		{[]int{1, 3, 4}, true},
		{[]int{1, 2, 3, 4, 5}, true},
		{[]int{0, 1}, false},
		{[]int{-1, 1}, false},
		{[]int{5, 6}, false},
		{[]int{1, 2, 3, 4, 5, 6}, false},
		{[]int{0, 1, 2, 3, 4, 5}, false},
		{[]int{2, 1}, false},
		{[]int{1, 3, 2}, false},
		{[]int{3, 1, 2}, false},
		{[]int{5, 4, 3, 2, 1}, false},
		{[]int{2, 2}, false},
		{[]int{1, 1, 2}, false},
		{[]int{1, 5, 5}, false},
		{[]int{1, 2, 3, 4, 5, 5}, false},
		{[]int{math.MinInt}, false},
		{[]int{math.MaxInt}, false},
		{[]int{math.MinInt, 1}, false},
		{[]int{1, math.MaxInt}, false},
		{[]int{1, math.MinInt}, false},
		{[]int{1, 1<<32 + 2}, false},
		{[]int{257}, false},
	} {
		if got := points.May(c.nodes); got != c.want {
			t.Errorf("P13.1: May(%v): %v", c.nodes, got)
		}
		if got := points.Of(c.nodes...); (got != nil) != c.want {
			t.Errorf("P13.1: Of(%v): %d points", c.nodes, len(got))
		}
	}
}

// P13.1: May and Of of all lists of up to six nodes about the limits.
func TestAllLists(t *testing.T) {
	lists := [][]int{nil}
	for begin := 0; len(lists[begin]) < 6; begin++ {
		for node := 0; node <= 6; node++ {
			lists = append(lists, append(slices.Clone(lists[begin]), node))
		}
	}
	may := 0
	for _, nodes := range lists {
		check(t, nodes)
		if points.May(nodes) {
			may++
		}
	}
	if may != 31 {
		t.Errorf("P13.1: of %d lists %d may be, want 31", len(lists), may)
	}
}

// P13.1: lists drawn at random, of odd numbers, and very long ones.
func TestDrawnLists(t *testing.T) {
	r := rand.New(rand.NewPCG(13, 1))
	odd := []int{math.MinInt, math.MinInt + 1, -1 << 32, -257, -5, -1, 0, 1, 2, 3, 4, 5, 6, 7, 255, 256, 257, 1<<32 + 1, math.MaxInt - 1, math.MaxInt}
	for range 20000 {
		nodes := make([]int, r.IntN(8))
		for i := range nodes {
			nodes[i] = odd[r.IntN(len(odd))]
		}
		check(t, nodes)
		slices.Sort(nodes)
		check(t, nodes)
	}
	check(t, make([]int, 1<<20))
	check(t, slices.Repeat([]int{1, 2, 3, 4, 5}, 1<<18))
	rising := make([]int, 1<<20)
	for i := range rising {
		rising[i] = i + 1
	}
	check(t, rising)
}

// P13.1: the points of each list that may be are those of its nodes on the ring of all five, in the same order.
func TestOfKnown(t *testing.T) {
	for _, nodes := range subsets() {
		want := slices.DeleteFunc(whole(), func(p points.Pt) bool { return !slices.Contains(nodes, p.Node) })
		got := points.Of(nodes...)
		if !slices.Equal(got, want) {
			t.Errorf("P13.1: Of(%v): %v, want %v", nodes, got, want)
		}
		if len(got) != 8*len(nodes) {
			t.Errorf("P13.1: Of(%v): %d points", nodes, len(got))
		}
		for i := range got[1:] {
			if !points.Less(got[i], got[i+1]) || points.Less(got[i+1], got[i]) {
				t.Errorf("P13.1: Of(%v): %v ahead of %v", nodes, got[i], got[i+1])
			}
		}
	}
}

// P13.1: Less, by hand: At counts, as a number without a sign, and Node, as one with a sign, only where At is the same.
func TestLessKnown(t *testing.T) {
	const top = math.MaxUint64
	for _, c := range []struct {
		a, b points.Pt
		want bool
	}{
		{points.Pt{}, points.Pt{}, false},
		{points.Pt{At: 5, Node: 2}, points.Pt{At: 5, Node: 3}, true},
		{points.Pt{At: 5, Node: 3}, points.Pt{At: 5, Node: 2}, false},
		{points.Pt{At: 5, Node: 3}, points.Pt{At: 5, Node: 3}, false},
		{points.Pt{At: 5, Node: 3}, points.Pt{At: 6, Node: 1}, true},
		{points.Pt{At: 6, Node: 1}, points.Pt{At: 5, Node: 3}, false},
		{points.Pt{At: 5, Node: 1}, points.Pt{At: 6, Node: 3}, true},
		{points.Pt{At: 0, Node: 5}, points.Pt{At: top, Node: 1}, true},
		{points.Pt{At: top, Node: 1}, points.Pt{At: 0, Node: 5}, false},
		{points.Pt{At: 1<<63 - 1, Node: 5}, points.Pt{At: 1 << 63, Node: 1}, true},
		{points.Pt{At: 1 << 63, Node: 1}, points.Pt{At: 1<<63 - 1, Node: 5}, false},
		{points.Pt{At: 1 << 32, Node: 1}, points.Pt{At: 1, Node: 5}, false},
		{points.Pt{At: top, Node: math.MinInt}, points.Pt{At: top, Node: math.MaxInt}, true},
		{points.Pt{At: top, Node: math.MaxInt}, points.Pt{At: top, Node: math.MinInt}, false},
		{points.Pt{At: 7, Node: -1}, points.Pt{At: 7, Node: 0}, true},
		{points.Pt{At: 7, Node: 0}, points.Pt{At: 7, Node: -1}, false},
		{points.Pt{At: 7, Node: 1 << 32}, points.Pt{At: 7, Node: 1}, false},
	} {
		if got := points.Less(c.a, c.b); got != c.want {
			t.Errorf("P13.1: Less(%v, %v): %v", c.a, c.b, got)
		}
	}
}

// P13.1: Less of all points of odd numbers, laid out in order.
func TestLessReference(t *testing.T) {
	var all []points.Pt
	for _, at := range []uint64{0, 1, 5, 1<<32 - 1, 1 << 32, 1<<63 - 1, 1 << 63, 1<<63 + 1, math.MaxUint64 - 1, math.MaxUint64} {
		for _, node := range []int{math.MinInt, math.MinInt + 1, -1 << 32, -1, 0, 1, 2, 5, 6, 1 << 32, math.MaxInt - 1, math.MaxInt} {
			all = append(all, points.Pt{At: at, Node: node})
		}
	}
	for i, a := range all {
		for k, b := range all {
			if got, want := points.Less(a, b), cmp.Less(i, k); got != want {
				t.Errorf("P13.1: Less(%v, %v): %v", a, b, got)
			}
		}
	}
}

// P0.3: the nodes and the room behind them stay; what is answered is new memory, spare room too.
func TestMemory(t *testing.T) {
	room := []int{1, 3, 5, 4, 2, 0}
	was := slices.Clone(room)
	one := points.Of(room[:3]...)
	if !points.May(room[:3]) || points.May(room[:4]) || points.Of(room[:5]...) != nil {
		t.Errorf("P13.1: May, Of of the beginnings of %v", room)
	}
	if !slices.Equal(room, was) {
		t.Errorf("P0.3: %v was changed to %v", was, room)
	}
	room[0] = 2
	if !slices.Equal(one, refOf(was[:3])) {
		t.Errorf("P0.3: Of keeps its list: %v", one)
	}
	clear(one[:cap(one)])
	one = append(one, points.Pt{At: 1, Node: 1})
	two := points.Of(was[:3]...)
	clear(two[:cap(two)])
	if got := points.Of(was[:3]...); !slices.Equal(got, refOf(was[:3])) {
		t.Errorf("P0.3: Of behind %d points that were written into: %v", len(one), got)
	}
}
