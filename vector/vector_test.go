package vector_test

import (
	"bytes"
	"math"
	"math/rand/v2"
	"slices"
	"testing"

	"icehouse/api"
	"icehouse/vector"
)

const edge = 1 << 40

// The reference below is written from the chapter, on plain lists of the five numbers, and knows nothing of num.

func list(v vector.Vector) []int64 {
	return slices.Clone(v[1:])
}

func refNumber(n int64) string {
	n *= 2
	out := ""
	for n >= 128 {
		out += string([]byte{byte(n%128 + 128)})
		n /= 128
	}
	return out + string([]byte{byte(n)})
}

func refMay(ns []int64) bool {
	return slices.Min(ns) >= 0 && slices.Max(ns) <= edge
}

func refEncode(ns []int64) string {
	out := ""
	for _, n := range ns {
		out += refNumber(n)
	}
	return out
}

// refDecode reads five numbers; nil, if b is not just what refEncode writes.
func refDecode(b string) []int64 {
	rest := b
	var ns []int64
	for range 5 {
		var n int64
		for i := 0; ; i++ {
			if i >= len(rest) || i == 6 {
				return nil
			}
			n += int64(rest[i]%128) << (7 * i)
			if rest[i] < 128 {
				rest = rest[i+1:]
				break
			}
		}
		if n%2 != 0 {
			return nil
		}
		ns = append(ns, n/2)
	}
	if !refMay(ns) || refEncode(ns) != b {
		return nil
	}
	return ns
}

// numbers are those about the limits, and those about a change of length.
func numbers() []int64 {
	return []int64{
		0, 1, -1, 63, 64, -64, 8191, 8192, edge - 1, edge, edge + 1, 2 * edge, -edge,
		math.MaxInt64, math.MaxInt64 - 1, math.MinInt64, math.MinInt64 + 1,
	}
}

// nodes are those that are there, and those that are not.
func nodes() []int {
	return []int{0, 1, 2, 3, 4, 5, 6, 7, -1, -5, 255, 256, 257, 1<<32 + 1, math.MaxInt, math.MinInt, math.MinInt + 1}
}

func isNode(node int) bool {
	return slices.Contains([]int{1, 2, 3, 4, 5}, node)
}

// drawn are vectors of numbers that may be and that may not, the place 0 too.
func drawn(n int) []vector.Vector {
	r := rand.New(rand.NewPCG(11, uint64(n)))
	all := numbers()
	out := []vector.Vector{{}}
	for range n {
		var v vector.Vector
		for i := range v {
			switch r.IntN(4) {
			case 0:
				v[i] = all[r.IntN(len(all))]
			case 1:
				v[i] = int64(r.Uint64() >> r.IntN(64))
			case 2:
				v[i] = r.Int64N(edge + 1)
			default:
				v[i] = int64(r.IntN(3))
			}
		}
		out = append(out, v)
	}
	return out
}

// P11.1: the i-th number is the node i + 1's; more than 5 are passed over; one below 0 is 0.
func TestOf(t *testing.T) {
	for _, c := range []struct {
		ns   []int64
		want vector.Vector
	}{
		{nil, vector.Vector{}},
		{[]int64{}, vector.Vector{}},
		{[]int64{7}, vector.Vector{0, 7}},
		{[]int64{-7}, vector.Vector{}},
		{[]int64{0, 7}, vector.Vector{0, 0, 7}},
		{[]int64{1, 2, 3, 4}, vector.Vector{0, 1, 2, 3, 4}},
		{[]int64{1, 2, 3, 4, 5}, vector.Vector{0, 1, 2, 3, 4, 5}},
		{[]int64{1, 2, 3, 4, 5, 6}, vector.Vector{0, 1, 2, 3, 4, 5}},
		{[]int64{1, 2, 3, 4, -5, 6}, vector.Vector{0, 1, 2, 3, 4}},
		{[]int64{-1, math.MinInt64, math.MaxInt64, edge + 1, -edge}, vector.Vector{0, 0, 0, math.MaxInt64, edge + 1}},
		{slices.Repeat([]int64{9}, 1000), vector.Vector{0, 9, 9, 9, 9, 9}},
	} {
		if got := vector.Of(c.ns...); got != c.want {
			t.Errorf("P11.1: Of(%d of them, %v): %v, want %v", len(c.ns), c.ns[:min(len(c.ns), 7)], got, c.want)
		}
	}
	if got := vector.Of(); got != (vector.Vector{}) {
		t.Errorf("P11.1: Of(): %v", got)
	}
}

// P11.1: Get answers the node's number, of others 0.
func TestGet(t *testing.T) {
	for _, v := range drawn(500) {
		for _, node := range nodes() {
			var want int64
			if isNode(node) {
				want = v[node]
			}
			if got := v.Get(node); got != want {
				t.Errorf("P11.1: Get(%d) of %v: %d, want %d", node, v, got, want)
			}
		}
	}
}

// P11.1: Set changes one node's number, in the answer alone; of no node it changes nothing.
func TestSet(t *testing.T) {
	for _, v := range drawn(100) {
		for _, node := range nodes() {
			for _, n := range numbers() {
				checkSet(t, v, node, n)
			}
		}
	}
}

func checkSet(t *testing.T, v vector.Vector, node int, n int64) {
	t.Helper()
	was := v
	got := v.Set(node, n)
	if v != was {
		t.Errorf("P11.1: Set(%d, %d) of %v left %v behind", node, n, was, v)
	}
	want := v
	if isNode(node) {
		want[0] = 0
		want[node] = n
		if n < 0 {
			want[node] = 0
		}
	}
	if got != want {
		t.Errorf("P11.1: Set(%d, %d) of %v: %v, want %v", node, n, v, got, want)
	}
}

// P11.1: Max and Min by hand: of v alone, of one more, of several, of numbers below 0.
func TestJoinKnown(t *testing.T) {
	v := vector.Of(3, 0, 9, 4)
	for _, c := range []struct {
		ws       []vector.Vector
		max, min vector.Vector
	}{
		{nil, v, v},
		{[]vector.Vector{}, v, v},
		{[]vector.Vector{v, v}, v, v},
		{[]vector.Vector{{}}, v, vector.Of()},
		{[]vector.Vector{vector.Of(4, 1, 8, 4, 1)}, vector.Of(4, 1, 9, 4, 1), vector.Of(3, 0, 8, 4)},
		{[]vector.Vector{vector.Of(4), vector.Of(0, 0, 10), vector.Of(2, 2, 2, 2, 2)}, vector.Of(4, 2, 10, 4, 2), vector.Of()},
		{[]vector.Vector{vector.Of(4, 4, 4, 4, 4), vector.Of(2, 2, 2, 2, 2)}, vector.Of(4, 4, 9, 4, 4), vector.Of(2, 0, 2, 2)},
		{[]vector.Vector{{0, -1, -2, math.MinInt64, math.MaxInt64, -1}}, vector.Of(3, 0, 9, math.MaxInt64), vector.Vector{0, -1, -2, math.MinInt64, 4, -1}},
	} {
		if got := v.Max(c.ws...); got != c.max {
			t.Errorf("P11.1: Max(%v) of %v: %v, want %v", c.ws, v, got, c.max)
		}
		if got := v.Min(c.ws...); got != c.min {
			t.Errorf("P11.1: Min(%v) of %v: %v, want %v", c.ws, v, got, c.min)
		}
	}
	if v != vector.Of(3, 0, 9, 4) {
		t.Errorf("P11.1: %v is left behind", v)
	}
}

// P11.1: node by node, of v and all of ws, against sorting; the lists that are handed in stay (P0.3).
func TestJoinReference(t *testing.T) {
	r := rand.New(rand.NewPCG(11, 1))
	all := drawn(500)
	for range 5000 {
		vs := make([]vector.Vector, 1+r.IntN(6), 10)
		for i := range vs {
			vs[i] = all[r.IntN(len(all))]
		}
		was := slices.Clone(vs[:cap(vs)])
		var most, least vector.Vector
		for node := 1; node <= 5; node++ {
			var ns []int64
			for _, w := range vs {
				ns = append(ns, w[node])
			}
			slices.Sort(ns)
			least[node], most[node] = ns[0], ns[len(ns)-1]
		}
		if got := vs[0].Max(vs[1:]...); got != most {
			t.Errorf("P11.1: Max of %v: %v, want %v", vs, got, most)
		}
		if got := vs[0].Min(vs[1:]...); got != least {
			t.Errorf("P11.1: Min of %v: %v, want %v", vs, got, least)
		}
		if !slices.Equal(vs[:cap(vs)], was) {
			t.Errorf("P0.3: Max, Min changed %v to %v", was, vs)
		}
	}
}

// P11.1: Has asks each of the nodes, and the place 0 never.
func TestHas(t *testing.T) {
	v := vector.Of(2, 2, 2, 2, 2)
	for place := range v {
		for _, zero := range []int64{0, 7, -7, math.MaxInt64, math.MinInt64} {
			for n := int64(1); n <= 3; n++ {
				w := v
				w[0] = zero
				w[place] = n
				if got, want := v.Has(w), place == 0 || n <= 2; got != want {
					t.Errorf("P11.1: %v.Has(%v): %v", v, w, got)
				}
				if got, want := w.Has(v), place == 0 || n >= 2; got != want {
					t.Errorf("P11.1: %v.Has(%v): %v", w, v, got)
				}
			}
		}
	}
	least := vector.Vector{0, math.MinInt64, math.MinInt64, math.MinInt64, math.MinInt64, math.MinInt64}
	if !vector.Of().Has(least) || least.Has(vector.Of()) || !least.Has(least) {
		t.Errorf("P11.1: Has of %v", least)
	}
}

// P11.1: Has, against what Max and Min answer of the same two.
func TestHasReference(t *testing.T) {
	all := drawn(300)
	for _, v := range all {
		for _, w := range all {
			want := true
			for i, n := range list(w) {
				want = want && list(v)[i] >= n
			}
			if v.Has(w) != want {
				t.Errorf("P11.1: %v.Has(%v): %v", v, w, !want)
			}
			if !v.Max(w).Has(v) || !v.Max(w).Has(w) || !v.Has(v.Min(w)) || !w.Has(v.Min(w)) {
				t.Errorf("P11.1: Has of the Max and the Min of %v and %v", v, w)
			}
		}
	}
}

// P11.1: the place 0 stays 0 in what is answered, whatever came in there, and is not asked.
func TestPlaceOfNobody(t *testing.T) {
	for _, n := range numbers() {
		v, w := vector.Of(1, 2, 3, 4, 5), vector.Of(5, 4, 3, 2, 1)
		v[0], w[0] = n, n
		for how, got := range map[string]vector.Vector{
			"Max alone": v.Max(), "Min alone": v.Min(),
			"Max": vector.Of().Max(v, w), "Min": vector.Of().Min(v, w),
			"Max of both": v.Max(w), "Min of both": v.Min(w),
			"Set": v.Set(3, 9), "Set of 0": vector.Of(1).Set(0, n),
		} {
			if got[0] != 0 {
				t.Errorf("P11.1: %s, of %d at the place 0: %v", how, n, got)
			}
		}
		if v.Get(0) != 0 {
			t.Errorf("P11.1: Get(0) of %v: %d", v, v.Get(0))
		}
		b := vector.Encode(v)
		if string(b) != "\x02\x04\x06\x08\x0a" {
			t.Errorf("P11.1: Encode(%v): %x", v, b)
		}
		if got, err := vector.Decode(b); got != vector.Of(1, 2, 3, 4, 5) || err != api.OK {
			t.Errorf("P11.1: Decode(%x): %v, %v", b, got, err)
		}
	}
}

// P11.1: bytes that were worked out apart from the program, there and back.
func TestBytesKnown(t *testing.T) {
	for _, c := range []struct {
		v    vector.Vector
		want string
	}{
		{vector.Of(), "\x00\x00\x00\x00\x00"},
		{vector.Of(1, 2, 3, 4, 5), "\x02\x04\x06\x08\x0a"},
		{vector.Of(63, 64, 0, 8191, 8192), "\x7e\x80\x01\x00\xfe\x7f\x80\x80\x01"},
		{vector.Of(edge), "\x80\x80\x80\x80\x80\x40\x00\x00\x00\x00"},
		{vector.Of(0, 0, 0, 0, edge-1), "\x00\x00\x00\x00\xfe\xff\xff\xff\xff\x3f"},
	} {
		if got := vector.Encode(c.v); string(got) != c.want {
			t.Errorf("P11.1: Encode(%v): %x, want %x", c.v, got, c.want)
		}
		if got, err := vector.Decode([]byte(c.want)); got != c.v || err != api.OK {
			t.Errorf("P11.1: Decode(%x): %v, %v, want %v", c.want, got, err, c.v)
		}
	}
}

// P11.1: each number from 0 to 2^40, of each of the nodes; one that is not makes it nil.
func TestEncodeLimits(t *testing.T) {
	for node := 1; node <= 5; node++ {
		for _, n := range numbers() {
			v := vector.Of(edge, 0, 64, 3, edge)
			v[node] = n
			want := ""
			if n >= 0 && n <= edge {
				want = refEncode(list(v))
			}
			got := vector.Encode(v)
			if string(got) != want || want == "" && got != nil {
				t.Errorf("P11.1: Encode(%v): %x, want %x", v, got, want)
			}
		}
	}
	for _, v := range drawn(5000) {
		want := ""
		if refMay(list(v)) {
			want = refEncode(list(v))
		}
		if got := vector.Encode(v); string(got) != want {
			t.Errorf("P11.1: Encode(%v): %x, want %x", v, got, want)
		}
	}
}

// checkDecode holds Decode against the reference: just bytes that Encode writes, else ErrForm and zero.
func checkDecode(t *testing.T, b string) {
	t.Helper()
	var want vector.Vector
	wantErr := api.ErrForm
	if ns := refDecode(b); ns != nil {
		copy(want[1:], ns)
		wantErr = api.OK
	}
	given := []byte(b)
	got, err := vector.Decode(given)
	if got != want || err != wantErr {
		t.Errorf("P11.1: Decode(%x): %v, %v, want %v, %v", b, got, err, want, wantErr)
	}
	if err == api.OK && string(vector.Encode(got)) != b {
		t.Errorf("P11.1: Decode(%x): %v, of which Encode writes other bytes", b, got)
	}
	if string(given) != b {
		t.Errorf("P0.3: Decode changed %x to %x", b, given)
	}
}

// P11.1: wrong bytes by hand: cut off, put behind, beyond the limits, longer than needed, beyond an int64.
func TestDecodeWrong(t *testing.T) {
	for _, b := range []string{
		"", "\x00", "\x80", "\xff",
		"\x02\x04\x06\x08", "\x02\x04\x06\x08\x8a", "\x02\x04\x06\x08\x0a\x00", "\x02\x04\x06\x08\x0a\x0c", "\x02\x04\x06\x08\x0a\x80",
		"\x01\x00\x00\x00\x00", "\x00\x00\x01\x00\x00", "\x00\x00\x00\x00\x01", "\x00\x00\x00\x00\x81\x01",
		"\x82\x80\x80\x80\x80\x40\x00\x00\x00\x00", "\x00\x00\x00\x00\x82\x80\x80\x80\x80\x40", "\x00\x00\x80\x80\x80\x80\x80\x80\x01\x00\x00",
		"\x80\x00\x00\x00\x00\x00", "\x00\x00\x00\x00\x80\x00", "\x82\x00\x00\x00\x00\x00", "\x00\x00\x00\x00\x82\x80\x00",
		"\x00\x00\x00\x00\xfe\xff\xff\xff\xff\xff\xff\xff\xff\x01", "\x00\x00\x00\x00\xff\xff\xff\xff\xff\xff\xff\xff\xff\x01",
		"\x00\x00\x00\x00\x80\x80\x80\x80\x80\x80\x80\x80\x80\x02", "\x80\x80\x80\x80\x80\x80\x80\x80\x80\x80\x80\x80",
	} {
		if got, err := vector.Decode([]byte(b)); got != (vector.Vector{}) || err != api.ErrForm {
			t.Errorf("P11.1: Decode(%x): %v, %v, want ErrForm", b, got, err)
		}
	}
	if got, err := vector.Decode(nil); got != (vector.Vector{}) || err != api.ErrForm {
		t.Errorf("P0.4: Decode(nil): %v, %v", got, err)
	}
	long := bytes.Repeat([]byte{0}, 1<<20)
	if got, err := vector.Decode(long); got != (vector.Vector{}) || err != api.ErrForm {
		t.Errorf("P11.1: Decode of %d bytes: %v, %v", len(long), got, err)
	}
}

// P11.1: each beginning of what Encode writes, each byte of it changed to all others, a byte put ahead and behind.
func TestDecodeReference(t *testing.T) {
	for _, v := range []vector.Vector{
		vector.Of(), vector.Of(1, 0, 64, 3, edge), vector.Of(edge, edge, edge, edge, edge),
		vector.Of(8192, 8191, edge-1, 63, 0), vector.Of(1<<20, 1<<21, 1<<33, 1<<34, 1<<39),
	} {
		b := string(vector.Encode(v))
		for n := range len(b) + 1 {
			checkDecode(t, b[:n])
			checkDecode(t, b[n:])
		}
		for c := range 256 {
			one := string([]byte{byte(c)})
			for i := range b {
				checkDecode(t, b[:i]+one+b[i+1:])
				checkDecode(t, b[:i]+one+b[i:])
			}
			checkDecode(t, b+one)
		}
	}
}

// P11.1: bytes drawn at random, most of which are nearly numbers.
func TestDecodeDrawn(t *testing.T) {
	r := rand.New(rand.NewPCG(11, 2))
	few := []byte{0, 1, 2, 0x40, 0x41, 0x7e, 0x7f, 0x80, 0x81, 0x82, 0xfe, 0xff}
	for range 100000 {
		b := make([]byte, 4+r.IntN(9))
		for i := range b {
			b[i] = few[r.IntN(len(few))]
			if r.IntN(4) == 0 {
				b[i] = byte(r.IntN(256))
			}
		}
		checkDecode(t, string(b))
	}
	for _, v := range drawn(5000) {
		checkDecode(t, refEncode([]int64{max(v[1], 0) / 2, max(v[2], 0) % (edge + 2), 1, max(v[3], 0) % 100, 0}))
	}
}

// P0.3: what is handed in is neither changed nor kept, its spare room neither; what is answered is new memory.
func TestMemory(t *testing.T) {
	ns := []int64{1, -2, 3, 4, 5, 6, 7}
	was := slices.Clone(ns)
	v := vector.Of(ns[:2]...)
	if !slices.Equal(ns, was) {
		t.Errorf("P0.3: Of changed %v to %v", was, ns)
	}
	ns[0] = 9
	if v != vector.Of(1) {
		t.Errorf("P0.3: Of keeps its list: %v", v)
	}
	one, two := vector.Encode(v), vector.Encode(v)
	clear(one[:cap(one)])
	one = append(one, "behind"...)
	if string(two) != "\x02\x00\x00\x00\x00" || string(vector.Encode(v)) != string(two) {
		t.Errorf("P0.3: Encode hands out one memory twice: %x, %x", one, two)
	}
	got, _ := vector.Decode(two)
	clear(two)
	if got != v {
		t.Errorf("P0.3: Decode keeps its bytes: %v", got)
	}
}
