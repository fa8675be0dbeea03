package msg

import (
	"math"
	"slices"
	"strings"
	"testing"

	"icehouse/api"
	"icehouse/crc"
	"icehouse/item"
	"icehouse/num"
)

// The tests here know how a message lies in its bytes: sealed anew, a body that was changed gets as far as it ever may.

func some() []api.Msg {
	return []api.Msg{
		{Kind: 1, From: 1},
		{
			Kind: 5, From: 2, To: 3, Epoch: 7, Tick: 90, Seq: 1000, N: 11, Id: 12, Op: 1, Key: "a key", Err: 6, Last: true,
			Item:    api.Item{Key: "one", Val: "a value", End: 70},
			Items:   []api.Item{{Key: "two", Val: "another"}, {Key: "three", Gone: true}},
			Marks:   []api.Mark{{Seq: 8, Key: "x"}, {Seq: 900, Key: "yy"}},
			Members: []int{1, 3, 4}, Base: 6, Old: []int{1, 4},
		},
	}
}

// exact holds that a body is told, or is what Encode makes of what Decode answers; whether it is that is answered.
func exact(t *testing.T, body []byte) bool {
	t.Helper()
	b := seal(body)
	m, err := Decode(b)
	if err != api.OK {
		if err != api.ErrForm || !Eq(m, api.Msg{}) {
			t.Fatalf("P19.1: Decode of the body %x: %v, %v", body, err, m)
		}
		return false
	}
	if !May(m) || !slices.Equal(Encode(m), b) {
		t.Fatalf("P19.1: Decode of the body %x, which Encode does not make: %v", body, m)
	}
	return true
}

// P19.1: bodies with a byte changed, gone or put between, sealed anew.
func TestSealedAnew(t *testing.T) {
	for _, m := range some() {
		b := body(m)
		if !exact(t, b) {
			t.Fatal("P19.1: a body as it was is told")
		}
		may := 0
		for i := range len(b) + 1 {
			for x := range 256 {
				if exact(t, slices.Insert(slices.Clone(b), i, byte(x))) {
					may++
				}
				if i == len(b) || b[i] == byte(x) {
					continue
				}
				c := slices.Clone(b)
				c[i] = byte(x)
				if exact(t, c) {
					may++
				}
			}
			for j := i + 1; j <= len(b); j++ {
				if exact(t, slices.Delete(slices.Clone(b), i, j)) {
					may++
				}
			}
		}
		if may == 0 {
			t.Error("no changed body is another message's")
		}
	}
}

// P19.1: bodies with two bytes changed, sealed anew.
func TestSealedAnewTwice(t *testing.T) {
	b := body(some()[0])
	values := []byte{0, 1, 2, 3, 4, 5, 6, 8, 10, 12, 20, 22, 28, 30, 63, 64, 127, 128, 129, 130, 131, 132, 192, 254, 255}
	for i := range b {
		for j := range i {
			for _, x := range values {
				for _, y := range values {
					c := slices.Clone(b)
					c[i], c[j] = x, y
					exact(t, c)
				}
			}
		}
	}
}

func noTexts() []string { return []string{"", "", "", "", "", ""} }

func laid(ns []int64, texts []string) []byte {
	return slices.Concat(num.Put(nil, ns...), num.PutText(nil, texts...))
}

// P19.1: numbers of the head that are no message's, also such as a narrower one would take for another.
func TestHead(t *testing.T) {
	good := []int64{1, 1, 0, 0, 0, 0, 0, 0, 0, 0, 0, 0}
	if !exact(t, laid(good, noTexts())) {
		t.Fatal("a body by hand is told")
	}
	for i := range good {
		for _, n := range []int64{-1, 2 * api.MaxNum, 1<<48 + 1, math.MaxInt64, math.MinInt64} {
			ns := slices.Clone(good)
			ns[i] = n
			if exact(t, laid(ns, noTexts())) {
				t.Errorf("P19.1: the number %d is %d", i, n)
			}
		}
	}
	// Last is 0 or 1; the one ahead of it is Err, which may be more.
	for _, n := range []int64{2, 3, 255, 256, 257} {
		ns := slices.Clone(good)
		ns[10] = n
		if exact(t, laid(ns, noTexts())) {
			t.Errorf("P19.1: Last is %d", n)
		}
	}
}

// P19.1: texts of entries, marks and nodes that are no message's.
func TestTexts(t *testing.T) {
	one := string(item.Encode(api.Item{Key: "k", Val: "v"}))
	mark := func(seq int64, key string) string { return string(num.PutText(num.Put(nil, seq), key)) }
	nodes := func(ns ...int64) string { return string(num.Put(nil, ns...)) }
	for _, c := range []struct {
		at   int
		text string
		want bool
	}{
		{0, strings.Repeat("k", 40), true}, {0, strings.Repeat("k", 41), false}, {0, strings.Repeat("k", 1<<16), false},
		{1, one, true}, {1, one + one, false}, {1, one[1:], false}, {1, one[:len(one)-1], false}, {1, one + "\x00", false}, {1, "\x00\x00\x00\x00", false},
		{2, one + one + one + one, true}, {2, strings.Repeat(one, 5), false}, {2, one[:len(one)-1], false}, {2, one + "\x00", false}, {2, strings.Repeat(one, 5000), false},
		{3, mark(1, "a") + mark(2, "b"), true}, {3, mark(1, "a") + mark(1, "b"), false}, {3, mark(1, ""), false}, {3, mark(0, "a"), false}, {3, mark(1, "a")[:2], false}, {3, mark(1, "a") + "\x02", false}, {3, "\x80", false},
		{4, nodes(1, 5), true}, {4, nodes(5, 1), false}, {4, nodes(0), false}, {4, nodes(6), false}, {4, nodes(1<<32 + 1), false}, {4, nodes(math.MinInt64), false}, {4, "\x82\x00", false}, {4, "\x80", false},
		{5, nodes(1, 5), true}, {5, nodes(5, 1), false}, {5, nodes(1, 1), false}, {5, "\x82\x00", false}, {5, "\x80", false},
	} {
		texts := noTexts()
		texts[c.at] = c.text
		if exact(t, laid([]int64{1, 1, 0, 0, 0, 0, 0, 0, 0, 0, 0, 0}, texts)) != c.want {
			t.Errorf("P19.1: the text %d is %.20q", c.at, c.text)
		}
	}
}

// sumless are four bytes that, put behind p, bring the sum back to what it is of nothing.
// Each bit of them turns the same bits of the sum, whatever p is and the others are: so they are found bit by bit.
func sumless(p []byte) []byte {
	sum := func(x uint32) uint32 {
		return crc.Sum(p, []byte{byte(x), byte(x >> 8), byte(x >> 16), byte(x >> 24)})
	}
	zero := sum(0)
	var turns, xs [32]uint32 // by the highest bit that each turns, and what turns it
	for bit := range 32 {
		turn, x := sum(1<<bit)^zero, uint32(1)<<bit
		for high := 31; high >= 0 && turn != 0; high-- {
			if turn>>high&1 == 0 {
				continue
			}
			if turns[high] == 0 {
				turns[high], xs[high] = turn, x
				break
			}
			turn, x = turn^turns[high], x^xs[high]
		}
	}
	rest, x := zero, uint32(0)
	for high := 31; high >= 0; high-- {
		if rest>>high&1 == 1 {
			rest, x = rest^turns[high], x^xs[high]
		}
	}
	return []byte{byte(x), byte(x >> 8), byte(x >> 16), byte(x >> 24)}
}

// P19.1: bytes cut off ahead are told also where what is left is a body, and has the same sum.
func TestCutAhead(t *testing.T) {
	inner := head(api.Msg{Kind: 1, From: 1})
	m := api.Msg{Kind: 1, From: 1, Item: api.Item{Key: "k", Val: "1234" + string(inner)}}
	b := body(m)
	at := strings.Index(string(b), "1234")
	m.Item.Val = string(sumless(b[:at])) + string(inner)
	b = Encode(m)
	rest := b[at+4:]
	if _, ok := parse(rest[:len(rest)-sealSize]); !ok || crc.Sum(b[:at+4]) != 0 {
		t.Fatalf("what is left is no body: %x", rest)
	}
	if crc.Sum(b[:len(b)-sealSize]) != crc.Sum(rest[:len(rest)-sealSize]) {
		t.Fatal("what is left has another sum")
	}
	if x, err := Decode(rest); err != api.ErrForm || !Eq(x, api.Msg{}) {
		t.Errorf("P19.1: bytes cut off ahead: %v, %v", err, x)
	}
	if x, err := Decode(b); err != api.OK || !Eq(x, m) {
		t.Errorf("P19.1: the whole of it: %v, %v", err, x)
	}
}
