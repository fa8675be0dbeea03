package crc_test

import (
	"bytes"
	"hash/crc32"
	"math/bits"
	"slices"
	"strings"
	"testing"

	"icehouse/crc"
)

// refSum divides bit by bit with the polynomial as the chapter writes it, and turns the bytes and the rest instead.
func refSum(b []byte) uint32 {
	rest := ^uint32(0)
	for _, c := range b {
		rest ^= uint32(bits.Reverse8(c)) << 24
		for range 8 {
			high := rest >> 31
			rest = rest<<1 ^ high*0x04C11DB7
		}
	}
	return ^bits.Reverse32(rest)
}

func check(t *testing.T, b []byte) {
	t.Helper()
	want := refSum(b)
	if library := crc32.ChecksumIEEE(b); library != want {
		t.Fatalf("the references differ at %.20x: %#x, %#x", b, want, library)
	}
	if got := crc.Sum(b); got != want {
		t.Errorf("P3.1: Sum(%.20x), %d bytes: %#x, want %#x", b, len(b), got, want)
	}
}

// walk is n bytes of all kinds, the same ones each time.
func walk(n int) []byte {
	out := make([]byte, n)
	x := uint64(7)
	for i := range out {
		x = x*6364136223846793005 + 1442695040888963407
		out[i] = byte(x >> 56)
	}
	return out
}

// P3.1: sums that were worked out apart from the program.
func TestKnown(t *testing.T) {
	var rising []byte
	for c := range 256 {
		rising = append(rising, byte(c))
	}
	for _, c := range []struct {
		text string
		want uint32
	}{
		{"", 0},
		{"\x00", 0xd202ef8d},
		{"\xff", 0xff000000},
		{"a", 0xe8b7be43},
		{"\x00\x00\x00\x00", 0x2144df1c},
		{"\xff\xff\xff\xff", 0xffffffff},
		{"123456789", 0xcbf43926},
		{"987654321", 0x015f0201},
		{"some key", 0x0a584c2a},
		{"The quick brown fox jumps over the lazy dog", 0x414fa339},
		{"雪", 0xfdc42b1a},
		{strings.Repeat("x", 64), 0x3ad2ac12},
		{strings.Repeat("\x00", 512), 0xb2aa7578},
		{strings.Repeat("\xa5", 4096), 0x4a9d36c6},
		{string(rising), 0x29058c73},
	} {
		if got := crc.Sum([]byte(c.text)); got != c.want {
			t.Errorf("P3.1: Sum(%.20q): %#x, want %#x", c.text, got, c.want)
		}
	}
}

// P3.1 and P0.4: of nothing the sum is 0, however little is handed in, and nothing between parts adds nothing.
func TestNothing(t *testing.T) {
	for _, parts := range [][][]byte{nil, {}, {nil}, {{}}, {nil, {}, nil}} {
		if got := crc.Sum(parts...); got != 0 {
			t.Errorf("P3.1: Sum(%v): %#x, want 0", parts, got)
		}
	}
	one, two := []byte("1234"), []byte("56789")
	for _, parts := range [][][]byte{{nil, one, two}, {one, nil, {}, two}, {one, two, {}}} {
		if got := crc.Sum(parts...); got != 0xcbf43926 {
			t.Errorf("P3.1: Sum(%q): %#x, want 0xcbf43926", parts, got)
		}
	}
}

// P3.1: every byte alone and every pair.
func TestBytesReference(t *testing.T) {
	for c := range 256 {
		check(t, []byte{byte(c)})
		for d := range 256 {
			check(t, []byte{byte(c), byte(d)})
		}
	}
}

// P3.1: each length about those of sectors and devices, and each single bit of a sector.
func TestLengthsReference(t *testing.T) {
	long := walk(1 << 17)
	for n := range 600 {
		check(t, long[:n])
		check(t, make([]byte, n))
		check(t, bytes.Repeat([]byte{0xff}, n))
	}
	for _, n := range []int{4095, 4096, 4097, 1 << 16, 1<<17 - 1, 1 << 17} {
		check(t, long[:n])
	}
	for bit := range 64 * 8 {
		sector := make([]byte, 64)
		sector[bit/8] = 1 << (bit % 8)
		check(t, sector)
	}
}

// P3.1: wherever parts are cut the sum is that of the whole; their order counts.
func TestParts(t *testing.T) {
	whole := walk(130)
	want := refSum(whole)
	for i := range len(whole) + 1 {
		for j := i; j <= len(whole); j++ {
			if got := crc.Sum(whole[:i], whole[i:j], whole[j:]); got != want {
				t.Errorf("P3.1: Sum cut at %d and %d: %#x, want %#x", i, j, got, want)
			}
		}
	}
	if got := crc.Sum(slices.Collect(slices.Chunk(whole, 1))...); got != want {
		t.Errorf("P3.1: Sum of single bytes: %#x, want %#x", got, want)
	}
	turned := refSum([]byte("56789" + "1234"))
	if got := crc.Sum([]byte("56789"), []byte("1234")); got != turned {
		t.Errorf("P3.1: Sum of parts the other way: %#x, want %#x", got, turned)
	}
	many := slices.Repeat([][]byte{[]byte("part")}, 10000)
	if got, want := crc.Sum(many...), refSum(bytes.Repeat([]byte("part"), 10000)); got != want {
		t.Errorf("P3.1: Sum of %d parts: %#x, want %#x", len(many), got, want)
	}
}

// P0.3 and P0.5: the parts and their spare room stay and are not kept, and a second call answers the same.
func TestLeavesParts(t *testing.T) {
	room := walk(64)
	parts := [][]byte{room[:7], nil, room[20:33], []byte("spare")}
	before := slices.Clone(room)
	sum := crc.Sum(parts[:3]...)
	if !bytes.Equal(room, before) {
		t.Errorf("P0.3: Sum changed its bytes: %x", room)
	}
	if len(parts[0]) != 7 || parts[1] != nil || len(parts[2]) != 13 || string(parts[3]) != "spare" {
		t.Errorf("P0.3: Sum changed its parts: %x", parts)
	}
	crc.Sum([]byte("something else"))
	if again := crc.Sum(parts[:3]...); again != sum {
		t.Errorf("P0.5: Sum answered %#x, then %#x", sum, again)
	}
	clear(room)
	if again := crc.Sum(before[:7], before[20:33]); again != sum {
		t.Errorf("P0.3: Sum kept its parts: %#x, want %#x", again, sum)
	}
}
