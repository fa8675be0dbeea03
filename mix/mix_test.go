package mix_test

import (
	"math"
	"math/big"
	"slices"
	"strings"
	"testing"

	"icehouse/mix"
)

// The reference below reckons with numbers that never wrap, and reduces by wide, which is 2^64, where the chapter says so.
var (
	wide   = new(big.Int).Lsh(big.NewInt(1), 64)
	seed   = number("9E3779B97F4A7C15")
	first  = number("BF58476D1CE4E5B9")
	second = number("94D049BB133111EB")
)

func number(hex string) *big.Int {
	n, ok := new(big.Int).SetString(hex, 16)
	if !ok {
		panic(hex)
	}
	return n
}

func wrap(n *big.Int) *big.Int { return new(big.Int).Mod(n, wide) }

func fold(x *big.Int, by uint) *big.Int { return new(big.Int).Xor(x, new(big.Int).Rsh(x, by)) }

func refStir(x *big.Int) *big.Int {
	x = wrap(x)
	x = wrap(new(big.Int).Mul(fold(x, 30), first))
	x = wrap(new(big.Int).Mul(fold(x, 27), second))
	return fold(x, 31)
}

func refOf(parts ...string) uint64 {
	h := seed
	for _, part := range parts {
		for _, c := range []byte(part) {
			h = refStir(new(big.Int).Xor(h, big.NewInt(int64(c))))
			h = wrap(new(big.Int).Add(h, big.NewInt(1)))
		}
		h = refStir(new(big.Int).Xor(h, big.NewInt(int64(256+len(part)))))
	}
	return h.Uint64()
}

func refPoint(node, i int) uint64 {
	n := new(big.Int).Mul(big.NewInt(int64(node)), big.NewInt(1000003))
	return refStir(n.Add(n, big.NewInt(int64(i)))).Uint64()
}

// P1.1: values that were worked out apart from the program.
func TestStirKnown(t *testing.T) {
	for _, c := range []struct{ x, want uint64 }{
		{0, 0},
		{1, 0x5692161d100b05e5},
		{2, 0xdbd238973a2b148a},
		{0xff, 0x33914dae20f87536},
		{1 << 30, 0x2ba0091cc9e3ceff},
		{1 << 31, 0xec105bf588587c9f},
		{1 << 63, 0x25c26ea579cea98a},
		{math.MaxUint64 - 1, 0xda26e52fa3730902},
		{math.MaxUint64, 0xb4d055fcf2cbbd7b},
		{0x0123456789abcdef, 0xb2c058e4ebb5112c},
		{0x9e3779b97f4a7c15, 0xe220a8397b1dcdaf},
	} {
		if got := mix.Stir(c.x); got != c.want {
			t.Errorf("P1.1: Stir(%#x): %#x, want %#x", c.x, got, c.want)
		}
	}
}

// P1.1: each bit alone, all the others, and a walk through numbers of all sizes.
func TestStirReference(t *testing.T) {
	check := func(x uint64) {
		want := refStir(new(big.Int).SetUint64(x)).Uint64()
		if got := mix.Stir(x); got != want {
			t.Errorf("P1.1: Stir(%#x): %#x, want %#x", x, got, want)
		}
	}
	x := uint64(7)
	for i := range 64 {
		check(1 << i)
		check(^(uint64(1) << i))
		check(x)
		x = x*6364136223846793005 + 1442695040888963407
	}
}

// P1.1: no part, empty parts, bytes that are no text, parts told apart by where they end and by their order.
func TestOfKnown(t *testing.T) {
	for _, c := range []struct {
		parts []string
		want  uint64
	}{
		{nil, 0x9e3779b97f4a7c15},
		{[]string{}, 0x9e3779b97f4a7c15},
		{[]string{""}, 0x6602d201e324653f},
		{[]string{"", ""}, 0x8ad9efc32d069a41},
		{[]string{"a"}, 0x80c59ba6b9401362},
		{[]string{"a", "b"}, 0x7dc2058ce81f5c9},
		{[]string{"b", "a"}, 0xc917c1c78370a10f},
		{[]string{"ab"}, 0xc2ac815b9168c00f},
		{[]string{"ab", ""}, 0x344db1fac66a01d4},
		{[]string{"", "ab"}, 0xf5d1954ff72c38ab},
		{[]string{"\x00"}, 0x71ce18fb748236fd},
		{[]string{"\x00\x00"}, 0xddc5b403cb39644b},
		{[]string{"\xff\xfe"}, 0x89ee6a0c05dc4c27},
		{[]string{"é"}, 0x2d9e8bf1e965bc20},
		{[]string{"雪"}, 0x4c6decad77f49229},
		{[]string{strings.Repeat("x", 255)}, 0xe79a7aa14170fa7b},
		{[]string{strings.Repeat("x", 256)}, 0xb9575e6ff023c272},
		{[]string{strings.Repeat("x", 1000)}, 0xc73434528285569c},
		{[]string{"the key of a thing"}, 0x1abd33d60ac40335},
	} {
		if got := mix.Of(c.parts...); got != c.want {
			t.Errorf("P1.1: Of(%.20q): %#x, want %#x", c.parts, got, c.want)
		}
	}
}

// P1.1: every byte, alone and behind others, and parts of many lengths.
func TestOfReference(t *testing.T) {
	check := func(parts ...string) {
		if got, want := mix.Of(parts...), refOf(parts...); got != want {
			t.Errorf("P1.1: Of(%.20q): %#x, want %#x", parts, got, want)
		}
	}
	for c := range 256 {
		one := string([]byte{byte(c)})
		check(one)
		check("key", one+"\x80"+one, "")
	}
	for _, n := range []int{2, 39, 40, 41, 200, 257, 511, 512, 513, 4096} {
		check(strings.Repeat("\xa5", n))
		check(strings.Repeat("k", n), "v")
	}
	check(slices.Repeat([]string{"part"}, 1000)...)
}

// P1.1: ordinary nodes, and sums that do and do not fit an int64.
func TestPointKnown(t *testing.T) {
	for _, c := range []struct {
		node, i int
		want    uint64
	}{
		{0, 0, 0},
		{0, 1, 0x5692161d100b05e5},
		{1, 0, 0xc1fd756f0b09cdf3},
		{1, 7, 0xf8f44f0188d7e7e0},
		{5, 7, 0xf5c02d0e3bad5f37},
		{0, 1000003, 0xc1fd756f0b09cdf3},
		{-1, 2, 0x85ce5d2a2454d044},
		{0, -1, 0xb4d055fcf2cbbd7b},
		{-1, 1000003, 0},
		{1, -1000003, 0},
		{math.MaxInt64, math.MaxInt64, 0xd0c370bcfb1252d4},
		{math.MinInt64, math.MinInt64, 0},
		{math.MaxInt64, 0, 0xfbe3a29688e9de2b},
		{math.MinInt64, 0, 0x25c26ea579cea98a},
		{0, math.MaxInt64, 0x5a682afe7965debd},
		{0, math.MinInt64, 0x25c26ea579cea98a},
	} {
		if got := mix.Point(c.node, c.i); got != c.want {
			t.Errorf("P1.1: Point(%d, %d): %#x, want %#x", c.node, c.i, got, c.want)
		}
	}
}

// P1.1: nodes and points about the limits, negative ones, and far beyond.
func TestPointReference(t *testing.T) {
	nodes := []int{-1 << 40, -6, -1, 0, 1, 2, 3, 4, 5, 6, 1 << 31, 1 << 40, 1 << 44, math.MinInt64, math.MaxInt64}
	for _, node := range nodes {
		for _, i := range []int{math.MinInt64, -1000003, -1, 0, 1, 2, 3, 4, 5, 6, 7, 8, 1 << 40, math.MaxInt64} {
			if got, want := mix.Point(node, i), refPoint(node, i); got != want {
				t.Errorf("P1.1: Point(%d, %d): %#x, want %#x", node, i, got, want)
			}
		}
	}
}

// P0.3 and P0.5: the parts and the room behind them stay, and a second call answers the same.
func TestOfLeavesParts(t *testing.T) {
	room := []string{"a", "", "\xff", "spare", "spare"}
	before := slices.Clone(room)
	h := mix.Of(room[:3]...)
	if !slices.Equal(room, before) {
		t.Errorf("P0.3: Of changed its parts: %q", room)
	}
	if again := mix.Of(room[:3]...); again != h {
		t.Errorf("P0.5: Of answered %#x, then %#x", h, again)
	}
	room[0] = "b"
	if mix.Of("a", "", "\xff") != h {
		t.Errorf("P0.3: Of kept its parts")
	}
}
