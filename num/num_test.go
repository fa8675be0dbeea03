package num_test

import (
	"bytes"
	"math"
	"math/big"
	"slices"
	"strings"
	"testing"

	"icehouse/api"
	"icehouse/num"
)

// The reference below reckons with numbers that never wrap, digit by digit to the base 128.

func refPut(n *big.Int) []byte {
	u := new(big.Int).Mul(n, big.NewInt(2))
	if n.Sign() < 0 {
		u.Neg(u).Sub(u, big.NewInt(1))
	}
	var out []byte
	for {
		digit := new(big.Int)
		u.DivMod(u, big.NewInt(128), digit)
		if u.Sign() == 0 {
			return append(out, byte(digit.Int64()))
		}
		out = append(out, byte(digit.Int64()+128))
	}
}

func refGet(b []byte) (int64, int, api.Errno) {
	end := slices.IndexFunc(b, func(c byte) bool { return c < 128 })
	if len(b) >= 10 && (end < 0 || end >= 9) && b[9] > 1 {
		return 0, 0, api.ErrForm
	}
	if end < 0 {
		return 0, 0, api.ErrMore
	}
	u := new(big.Int)
	for i := end; i >= 0; i-- {
		u.Mul(u, big.NewInt(128)).Add(u, big.NewInt(int64(b[i]%128)))
	}
	n := new(big.Int).Rsh(u, 1)
	if u.Bit(0) == 1 {
		n.Add(n, big.NewInt(1)).Neg(n)
	}
	if !n.IsInt64() || len(refPut(n)) != end+1 {
		return 0, 0, api.ErrForm
	}
	return n.Int64(), end + 1, api.OK
}

// numbers are those about every change of length, the ends, and a walk through all sizes.
func numbers() []int64 {
	out := []int64{0, math.MaxInt64, math.MinInt64, math.MaxInt64 - 1, math.MinInt64 + 1}
	x := uint64(7)
	for i := range 63 {
		at := int64(1) << i
		out = append(out, at-1, at, at+1, -at-1, -at, -at+1, int64(x)>>i)
		x = x*6364136223846793005 + 1442695040888963407
	}
	return out
}

var known = []struct {
	n    int64
	want string
}{
	{0, "\x00"},
	{-1, "\x01"},
	{1, "\x02"},
	{-2, "\x03"},
	{63, "\x7e"},
	{-64, "\x7f"},
	{64, "\x80\x01"},
	{-65, "\x81\x01"},
	{300, "\xd8\x04"},
	{-300, "\xd7\x04"},
	{8191, "\xfe\x7f"},
	{-8192, "\xff\x7f"},
	{8192, "\x80\x80\x01"},
	{1 << 40, "\x80\x80\x80\x80\x80\x40"},
	{1<<62 - 1, "\xfe\xff\xff\xff\xff\xff\xff\xff\x7f"},
	{-1 << 62, "\xff\xff\xff\xff\xff\xff\xff\xff\x7f"},
	{1 << 62, "\x80\x80\x80\x80\x80\x80\x80\x80\x80\x01"},
	{-1<<62 - 1, "\x81\x80\x80\x80\x80\x80\x80\x80\x80\x01"},
	{math.MaxInt64, "\xfe\xff\xff\xff\xff\xff\xff\xff\xff\x01"},
	{math.MinInt64, "\xff\xff\xff\xff\xff\xff\xff\xff\xff\x01"},
}

// P2.1: bytes that were worked out apart from the program, there and back.
func TestKnown(t *testing.T) {
	for _, c := range known {
		if got := num.Put(nil, c.n); string(got) != c.want {
			t.Errorf("P2.1: Put(nil, %d): %x, want %x", c.n, got, c.want)
		}
		for _, behind := range []string{"", "\x00", "\x80", "\xff\xff"} {
			n, k, err := num.Get([]byte(c.want + behind))
			if n != c.n || k != len(c.want) || err != api.OK {
				t.Errorf("P2.1: Get(%x, %x): %d, %d, %v", c.want, behind, n, k, err)
			}
		}
	}
}

// P2.1: b stays ahead, whatever it holds; the numbers come in their order; of none b alone.
func TestPutSeveral(t *testing.T) {
	for _, c := range []struct {
		b    string
		ns   []int64
		want string
	}{
		{"", nil, ""},
		{"\x80ab", nil, "\x80ab"},
		{"", []int64{1, -1, 64, 0}, "\x02\x01\x80\x01\x00"},
		{"\x80", []int64{3}, "\x80\x06"},
		{"a\x00", []int64{64, 64}, "a\x00\x80\x01\x80\x01"},
	} {
		if got := num.Put([]byte(c.b), c.ns...); string(got) != c.want {
			t.Errorf("P2.1: Put(%x, %v): %x, want %x", c.b, c.ns, got, c.want)
		}
	}
	if got := num.Put(nil); len(got) != 0 {
		t.Errorf("P0.4: Put(nil): %x", got)
	}
}

// P2.1: numbers of all sizes, and each of their beginnings.
func TestNumbersReference(t *testing.T) {
	ns := numbers()
	var all []byte
	for _, n := range ns {
		want := refPut(big.NewInt(n))
		all = append(all, want...)
		got := num.Put([]byte("ahead"), n)
		if string(got) != "ahead"+string(want) {
			t.Errorf("P2.1: Put(ahead, %d): %x, want %x", n, got, want)
		}
		for k := range want {
			if m, size, err := num.Get(want[:k]); m != 0 || size != 0 || err != api.ErrMore {
				t.Errorf("P2.1: Get(%x): %d, %d, %v, want ErrMore", want[:k], m, size, err)
			}
		}
		if m, size, err := num.Get(want); m != n || size != len(want) || err != api.OK {
			t.Errorf("P2.1: Get(%x): %d, %d, %v, want %d", want, m, size, err, n)
		}
	}
	if got := num.Put(nil, ns...); !bytes.Equal(got, all) {
		t.Errorf("P2.1: Put of %d numbers: %d bytes, want %d", len(ns), len(got), len(all))
	}
}

func checkGet(t *testing.T, b []byte) {
	t.Helper()
	n, k, err := num.Get(b)
	wantN, wantK, wantErr := refGet(b)
	if n != wantN || k != wantK || err != wantErr {
		t.Errorf("P2.1: Get(%x): %d, %d, %v, want %d, %d, %v", b, n, k, err, wantN, wantK, wantErr)
	}
}

// P2.1: all bytes alone, all pairs, and both ends of what is long, whatever its last bytes.
func TestGetReference(t *testing.T) {
	checkGet(t, nil)
	checkGet(t, []byte{})
	for c := range 256 {
		checkGet(t, []byte{byte(c)})
		for d := range 256 {
			checkGet(t, []byte{byte(c), byte(d)})
			checkGet(t, []byte{0x80, byte(c), byte(d)})
		}
		for size := range 14 {
			for _, fill := range []byte{0x80, 0xff, 0xa5} {
				long := append(bytes.Repeat([]byte{fill}, size), byte(c))
				checkGet(t, long)
				checkGet(t, append(long, 0))
				checkGet(t, append(long, 1))
				checkGet(t, append(long, 0x80))
			}
		}
	}
}

// P2.1: what is longer than needed, what is beyond, and what just ends too early, by hand.
func TestGetErrors(t *testing.T) {
	nine := strings.Repeat("\x80", 9)
	full := strings.Repeat("\xff", 9)
	for _, c := range []struct {
		b    string
		want api.Errno
	}{
		{"", api.ErrMore},
		{"\x80", api.ErrMore},
		{"\xff\xff", api.ErrMore},
		{nine, api.ErrMore},
		{full, api.ErrMore},
		{"\x80\x00", api.ErrForm},
		{"\xff\x00", api.ErrForm},
		{"\x81\x80\x00", api.ErrForm},
		{nine[:8] + "\x00", api.ErrForm},
		{nine + "\x00", api.ErrForm},
		{full + "\x00", api.ErrForm},
		{full + "\x02", api.ErrForm},
		{full + "\x7f", api.ErrForm},
		{nine + "\x80", api.ErrForm},
		{nine + "\x81", api.ErrForm},
		{full + "\xff", api.ErrForm},
		{nine + "\x81\x00", api.ErrForm},
		{nine + "\x80\x01", api.ErrForm},
		{full + full, api.ErrForm},
	} {
		if n, k, err := num.Get([]byte(c.b)); n != 0 || k != 0 || err != c.want {
			t.Errorf("P2.1: Get(%x): %d, %d, %v, want %v", c.b, n, k, err, c.want)
		}
	}
}

// P2.1: each number into its place, in order; what lies behind the last is not looked at.
func TestAll(t *testing.T) {
	var a, b, c int64
	list := []byte("\x02\x03\x80\x01\x80")
	if n, err := num.All(list, &a, &b, &c); n != 4 || err != api.OK || a != 1 || b != -2 || c != 64 {
		t.Errorf("P2.1: All: %d, %v: %d %d %d", n, err, a, b, c)
	}
	if n, err := num.All(list, &a, &a); n != 2 || err != api.OK || a != -2 {
		t.Errorf("P2.1: All, a place twice: %d, %v: %d", n, err, a)
	}
	a, c = 7, 7
	if n, err := num.All(list, nil, nil, &c); n != 4 || err != api.OK || c != 64 {
		t.Errorf("P2.1: All, nil places: %d, %v: %d", n, err, c)
	}
	if n, err := num.All(list); n != 0 || err != api.OK {
		t.Errorf("P2.1: All of no place: %d, %v", n, err)
	}
	if n, err := num.All(nil, []*int64{}...); n != 0 || err != api.OK {
		t.Errorf("P2.1: All of nothing: %d, %v", n, err)
	}
}

// P2.1: the first error counts, a nil place's too, and of its own number and those behind it nothing is written.
func TestAllErrors(t *testing.T) {
	for _, c := range []struct {
		b    string
		want api.Errno
	}{
		{"", api.ErrMore},
		{"\x02", api.ErrMore},
		{"\x02\x80", api.ErrMore},
		{"\x02\x04", api.ErrMore},
		{"\x80\x00\x02\x02", api.ErrForm},
		{"\x02\x80\x00\x02", api.ErrForm},
		{"\x02\x80\x00\x80", api.ErrForm},
		{"\x02\x04\x80", api.ErrMore},
		{"\x02\x04\x80\x00", api.ErrForm},
		{"\x02\x04" + strings.Repeat("\xff", 10), api.ErrForm},
	} {
		first, last := int64(-9), int64(-9)
		if n, err := num.All([]byte(c.b), &first, nil, &last); n != 0 || err != c.want {
			t.Errorf("P2.1: All(%x): %d, %v, want %v", c.b, n, err, c.want)
		}
		if last != -9 || first != -9 && first != 1 {
			t.Errorf("P2.1: All(%x) wrote %d, %d", c.b, first, last)
		}
		if n, err := num.All([]byte(c.b), nil, nil, nil); n != 0 || err != c.want {
			t.Errorf("P2.1: All(%x) into nil: %d, %v, want %v", c.b, n, err, c.want)
		}
	}
}

// P2.1: a long list of numbers, there and back.
func TestAllLong(t *testing.T) {
	ns := slices.Repeat(numbers(), 40)
	b := num.Put(nil, ns...)
	got := make([]int64, len(ns))
	places := make([]*int64, len(ns))
	for i := range got {
		places[i] = &got[i]
	}
	if n, err := num.All(b, places...); n != len(b) || err != api.OK || !slices.Equal(got, ns) {
		t.Errorf("P2.1: All of %d numbers: %d, %v", len(ns), n, err)
	}
	if n, err := num.All(b[:len(b)-1], places...); n != 0 || err != api.ErrMore {
		t.Errorf("P2.1: All, a byte short: %d, %v", n, err)
	}
}

// P2.1: of each text the length in bytes, then its bytes; b stays ahead.
func TestPutText(t *testing.T) {
	long := strings.Repeat("\xff", 64)
	for _, c := range []struct {
		b    string
		ts   []string
		want string
	}{
		{"", nil, ""},
		{"\x80a", nil, "\x80a"},
		{"", []string{""}, "\x00"},
		{"x", []string{"abc", "", "d"}, "x\x06abc\x00\x02d"},
		{"", []string{"雪"}, "\x06\xe9\x9b\xaa"},
		{"", []string{"\x00\xff"}, "\x04\x00\xff"},
		{"\xff", []string{long[1:]}, "\xff\x7e" + long[1:]},
		{"", []string{long, "e"}, "\x80\x01" + long + "\x02e"},
	} {
		if got := num.PutText([]byte(c.b), c.ts...); string(got) != c.want {
			t.Errorf("P2.1: PutText(%x, %q): %x, want %x", c.b, c.ts, got, c.want)
		}
	}
	if got := num.PutText(nil); len(got) != 0 {
		t.Errorf("P0.4: PutText(nil): %x", got)
	}
	over := strings.Repeat("o", 1<<16+1)
	if got := num.PutText(nil, over); string(got) != "\x82\x80\x08"+over {
		t.Errorf("P2.1: PutText of more than 2^16 bytes: %d bytes", len(got))
	}
}

// P2.1: texts of many lengths, to the longest, and whatever lies behind them.
func TestGetText(t *testing.T) {
	for _, size := range []int{0, 1, 39, 40, 63, 64, 65, 8191, 8192, 1<<16 - 1, 1 << 16} {
		text := strings.Repeat("\xa5", size)
		b := num.PutText(nil, text)
		for _, behind := range []string{"", "\x00", "\xff\xff"} {
			got, n, err := num.GetText(append(slices.Clone(b), behind...))
			if got != text || n != len(b) || err != api.OK {
				t.Errorf("P2.1: GetText, %d bytes: %d, %d, %v", size, len(got), n, err)
			}
		}
		if got, n, err := num.GetText(b[:len(b)-1]); got != "" || n != 0 || err != api.ErrMore {
			t.Errorf("P2.1: GetText, %d bytes less one: %q, %d, %v", size, got, n, err)
		}
	}
	var texts []string
	b := num.PutText(nil, "one", "", "\x00三")
	for len(b) > 0 {
		s, n, err := num.GetText(b)
		if err != api.OK {
			t.Fatalf("P2.1: GetText(%x): %v", b, err)
		}
		texts, b = append(texts, s), b[n:]
	}
	if !slices.Equal(texts, []string{"one", "", "\x00三"}) {
		t.Errorf("P2.1: GetText one behind the other: %q", texts)
	}
}

// P2.1: a length that is none, or is out of bounds, is told ahead of what is missing.
func TestGetTextErrors(t *testing.T) {
	over := strings.Repeat("o", 1<<16+1)
	for _, c := range []struct {
		b    string
		want api.Errno
	}{
		{"", api.ErrMore},
		{"\x80", api.ErrMore},
		{"\x02", api.ErrMore},
		{"\x06ab", api.ErrMore},
		{"\x80\x01" + strings.Repeat("a", 63), api.ErrMore},
		{string(num.Put(nil, 1<<16)), api.ErrMore},
		{"\x01", api.ErrForm},
		{"\x01aaaa", api.ErrForm},
		{"\x7faaaa", api.ErrForm},
		{"\x80\x00", api.ErrForm},
		{"\x82\x00aaaa", api.ErrForm},
		{strings.Repeat("\xff", 10), api.ErrForm},
		{string(num.PutText(nil, over)), api.ErrForm},
		{string(num.Put(nil, 1<<16+1)), api.ErrForm},
		{string(num.Put(nil, 1<<32)), api.ErrForm},
		{string(num.Put(nil, 1<<32+1)) + "aaaa", api.ErrForm},
		{string(num.Put(nil, math.MaxInt64)) + "aaaa", api.ErrForm},
		{string(num.Put(nil, math.MinInt64)) + "aaaa", api.ErrForm},
	} {
		if s, n, err := num.GetText([]byte(c.b)); s != "" || n != 0 || err != c.want {
			t.Errorf("P2.1: GetText(%.20x): %.20q, %d, %v, want %v", c.b, s, n, err, c.want)
		}
	}
}

// P0.3: neither b nor the room behind it is changed, and what is answered shares no memory with it.
func TestNewMemory(t *testing.T) {
	calls := map[string]func(b []byte) []byte{
		"Put":             func(b []byte) []byte { return num.Put(b, 1, 64, math.MinInt64) },
		"Put of none":     func(b []byte) []byte { return num.Put(b) },
		"PutText":         func(b []byte) []byte { return num.PutText(b, "abc", "", "d") },
		"PutText of none": func(b []byte) []byte { return num.PutText(b) },
	}
	for name, call := range calls {
		for _, size := range []int{0, 3} {
			room := bytes.Repeat([]byte{0x77}, 64)
			one, two := call(room[:size]), call(room[:size])
			if !bytes.Equal(room, bytes.Repeat([]byte{0x77}, 64)) {
				t.Errorf("P0.3: %s changed what it was given: %x", name, room)
			}
			want := slices.Clone(two)
			for _, b := range [][]byte{room, one[:cap(one)]} {
				for i := range b {
					b[i] = 0x11
				}
			}
			if !bytes.Equal(two, want) {
				t.Errorf("P0.3: %s shares memory: %x, want %x", name, two, want)
			}
			clear(two[:cap(two)])
			if !bytes.Equal(room, bytes.Repeat([]byte{0x11}, 64)) {
				t.Errorf("P0.3: %s answered what it was given: %x", name, room)
			}
		}
	}
}

// P0.3 and P0.5: what reads leaves the bytes, keeps none of them, and answers the same again.
func TestReadersLeaveBytes(t *testing.T) {
	b := []byte("\x06abc\x80\x01")
	before := slices.Clone(b)
	s, _, _ := num.GetText(b)
	place := int64(0)
	places := []*int64{nil, &place}
	for range 2 {
		if n, k, err := num.Get(b[4:]); n != 64 || k != 2 || err != api.OK {
			t.Errorf("P0.5: Get: %d, %d, %v", n, k, err)
		}
		if n, err := num.All(b, places...); n != 2 || err != api.OK || place != -49 {
			t.Errorf("P0.5: All: %d, %v: %d", n, err, place)
		}
	}
	if !bytes.Equal(b, before) || places[0] != nil || places[1] != &place {
		t.Errorf("P0.3: bytes or places were changed: %x", b)
	}
	clear(b)
	if s != "abc" {
		t.Errorf("P0.3: GetText kept its bytes: %q", s)
	}
}
