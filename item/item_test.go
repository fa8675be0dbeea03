package item_test

import (
	"bytes"
	"math"
	"math/rand/v2"
	"slices"
	"strings"
	"testing"

	"icehouse/api"
	"icehouse/item"
)

// The reference below is written from the chapter, digit by digit, and knows nothing of num.

func refNumber(n int64) string {
	n *= 2
	out := ""
	for n >= 128 {
		out += string([]byte{byte(n%128 + 128)})
		n /= 128
	}
	return out + string([]byte{byte(n)})
}

func refText(s string) string { return refNumber(int64(len(s))) + s }

func refEncode(xs ...api.Item) string {
	var out strings.Builder
	for _, x := range xs {
		gone := "\x00"
		if x.Gone {
			gone = "\x02"
		}
		out.WriteString(refText(x.Key) + refText(x.Val) + refNumber(x.End) + gone)
	}
	return out.String()
}

// part is a piece of an entry, and whether it may be.
type part[T any] struct {
	x   T
	may bool
}

func keys() []part[string] {
	return []part[string]{
		{"", false},
		{"a", true},
		{"\x00", true},
		{"\xff\x80", true},
		{strings.Repeat("k", 39), true},
		{strings.Repeat("k", 40), true},
		{strings.Repeat("k", 41), false},
		{strings.Repeat("雪", 13), true},
		{strings.Repeat("雪", 14), false},
		{strings.Repeat("k", 256), false},
		{strings.Repeat("k", 1<<16+1), false},
	}
}

func vals() []part[string] {
	return []part[string]{
		{"", true},
		{"\x00", true},
		{"\xff", true},
		{strings.Repeat("v", 199), true},
		{strings.Repeat("v", 200), true},
		{strings.Repeat("v", 201), false},
		{strings.Repeat("雪", 66), true},
		{strings.Repeat("雪", 67), false},
		{strings.Repeat("v", 256), false},
		{strings.Repeat("v", 1<<16+1), false},
	}
}

func ends() []part[int64] {
	return []part[int64]{
		{0, true},
		{1, true},
		{63, true},
		{64, true},
		{1<<40 - 1, true},
		{1 << 40, true},
		{1<<40 + 1, false},
		{1 << 41, false},
		{math.MaxInt64, false},
		{-1, false},
		{-1 << 40, false},
		{math.MinInt64, false},
	}
}

// each calls see with each key, value and end, Gone and not, and with whether that may be.
func each(see func(x api.Item, may bool)) {
	for _, key := range keys() {
		for _, val := range vals() {
			for _, end := range ends() {
				x := api.Item{Key: key.x, Val: val.x, End: end.x}
				see(x, key.may && val.may && end.may)
				x.Gone = true
				see(x, key.may && val.x == "" && end.x == 0)
			}
		}
	}
}

// allowed are all of each that may be.
func allowed() []api.Item {
	var out []api.Item
	each(func(x api.Item, may bool) {
		if may {
			out = append(out, x)
		}
	})
	return out
}

func wantForm(t *testing.T, b string) {
	t.Helper()
	if xs, err := item.Decode([]byte(b)); len(xs) != 0 || err != api.ErrForm {
		t.Errorf("P7.1: Decode(%.40x, %d bytes): %d entries, %v, want ErrForm", b, len(b), len(xs), err)
	}
}

func wantItems(t *testing.T, b string, want ...api.Item) {
	t.Helper()
	if xs, err := item.Decode([]byte(b)); !slices.Equal(xs, want) || err != api.OK {
		t.Errorf("P7.1: Decode(%.40x, %d bytes): %d entries, %v, want %d", b, len(b), len(xs), err, len(want))
	}
}

// P7.1: each part within its limits and beyond, with each other part so.
func TestMay(t *testing.T) {
	each(func(x api.Item, may bool) {
		if item.May(x) != may {
			t.Errorf("P7.1: May of key %d, value %d, End %d, Gone %v: want %v", len(x.Key), len(x.Val), x.End, x.Gone, may)
		}
	})
}

// P7.1: an entry that may be lives as long as End is 0 or above now.
func TestLive(t *testing.T) {
	nows := []int64{math.MinInt64, -1 << 40, -1, 0, 1, 2, 62, 63, 64, 65, 1<<40 - 1, 1 << 40, 1<<40 + 1, math.MaxInt64}
	each(func(x api.Item, may bool) {
		for _, now := range nows {
			want := may && !x.Gone && (x.End == 0 || now < x.End)
			if item.Live(x, now) != want {
				t.Errorf("P7.1: Live of key %d, value %d, End %d, Gone %v at %d: want %v", len(x.Key), len(x.Val), x.End, x.Gone, now, want)
			}
		}
	})
	for _, c := range []struct {
		x    api.Item
		now  int64
		want bool
	}{
		{api.Item{Key: "a"}, math.MaxInt64, true},
		{api.Item{Key: "a"}, math.MinInt64, true},
		{api.Item{Key: "a", End: 1}, 0, true},
		{api.Item{Key: "a", End: 1}, 1, false},
		{api.Item{Key: "a", End: 1}, -1, true},
		{api.Item{Key: "a", End: 10}, 9, true},
		{api.Item{Key: "a", End: 10}, 10, false},
		{api.Item{Key: "a", End: 10}, 11, false},
		{api.Item{Key: "a", Gone: true}, 0, false},
		{api.Item{Key: "a", End: -1}, math.MinInt64, false},
		{api.Item{Key: "a", End: 1<<40 + 1}, 0, false},
		{api.Item{}, 0, false},
	} {
		if item.Live(c.x, c.now) != c.want {
			t.Errorf("P7.1: Live(%#v, %d): want %v", c.x, c.now, c.want)
		}
	}
}

// P7.1: bytes that were written by hand, there and back.
func TestKnown(t *testing.T) {
	for _, c := range []struct {
		xs   []api.Item
		want string
	}{
		{[]api.Item{{Key: "a"}}, "\x02a\x00\x00\x00"},
		{[]api.Item{{Key: "a", Gone: true}}, "\x02a\x00\x00\x02"},
		{[]api.Item{{Key: "ab", Val: "xyz", End: 300}}, "\x04ab\x06xyz\xd8\x04\x00"},
		{[]api.Item{{Key: "\x00", Val: "\xff\x80", End: 1}}, "\x02\x00\x04\xff\x80\x02\x00"},
		{[]api.Item{{Key: "雪", End: 1 << 40}}, "\x06\xe9\x9b\xaa\x00\x80\x80\x80\x80\x80\x40\x00"},
		{[]api.Item{{Key: "b"}, {Key: "a", Gone: true}, {Key: "b", Val: "v", End: 63}}, "\x02b\x00\x00\x00\x02a\x00\x00\x02\x02b\x02v\x7e\x00"},
		{[]api.Item{{Key: "a"}, {Key: "a"}}, "\x02a\x00\x00\x00\x02a\x00\x00\x00"},
		{
			[]api.Item{{Key: strings.Repeat("k", 40), Val: strings.Repeat("v", 200), End: 64}},
			"\x50" + strings.Repeat("k", 40) + "\x90\x03" + strings.Repeat("v", 200) + "\x80\x01\x00",
		},
	} {
		if got := item.Encode(c.xs...); string(got) != c.want {
			t.Errorf("P7.1: Encode(%#v): %x, want %x", c.xs, got, c.want)
		}
		wantItems(t, c.want, c.xs...)
	}
}

// P7.1: each entry alone, there and back, or nil, if it may not be; and what it would be is not read either.
func TestEachEntry(t *testing.T) {
	each(func(x api.Item, may bool) {
		got := item.Encode(x)
		if !may {
			if got != nil {
				t.Errorf("P7.1: Encode of an entry that may not be: %x", got)
			}
			if x.End >= 0 && x.End <= 1<<41 {
				wantForm(t, refEncode(x))
			}
			return
		}
		want := refEncode(x)
		if string(got) != want {
			t.Errorf("P7.1: Encode(%#v): %x, want %x", x, got, want)
		}
		wantItems(t, want, x)
	})
}

// P7.1: many entries, in their order, each as often as it is there.
func TestManyEntries(t *testing.T) {
	xs := allowed()
	for range 6 {
		xs = append(xs, xs...)
	}
	b := item.Encode(xs...)
	if string(b) != refEncode(xs...) {
		t.Errorf("P7.1: Encode of %d entries: %d bytes", len(xs), len(b))
	}
	wantItems(t, string(b), xs...)
	wantForm(t, string(b[:len(b)-1]))
}

// P7.1: nil, wherever the one stands that may not be; of none nothing.
func TestEncodeNil(t *testing.T) {
	good := api.Item{Key: "a", Val: "v", End: 3}
	for _, bad := range []api.Item{{}, {Val: "v"}, {Key: "a", End: -1}, {Key: "a", Val: "v", Gone: true}, {Key: "a", End: 1, Gone: true}, {Gone: true}} {
		for i := range 4 {
			xs := slices.Insert(slices.Repeat([]api.Item{good}, 3), i, bad)
			if got := item.Encode(xs...); got != nil {
				t.Errorf("P7.1: Encode of %#v: %x, want nil", xs, got)
			}
		}
	}
	for _, xs := range [][]api.Item{nil, {}} {
		if got := item.Encode(xs...); len(got) != 0 {
			t.Errorf("P7.1: Encode of none: %x", got)
		}
	}
}

// P7.1: bytes that no Encode writes, by hand: ErrForm, also where they just end too early.
func TestDecodeErrors(t *testing.T) {
	for _, b := range []string{
		"",
		"\x00",
		"\x00\x00\x00\x00",
		"\x80",
		"\x02",
		"\x02a",
		"\x02a\x00",
		"\x02a\x00\x00",
		"\x02a\x00\x80",
		"\x02a\x00\x00\x80",
		"\x02a\x00\x00\x00\x00",
		"\x02a\x00\x00\x00\x02",
		"\x04a\x00\x00\x00",
		"\x01a\x00\x00\x00",
		"\x02a\x01\x00\x00",
		"\x02a\x04v\x00\x00",
		// 2, -1, -2 and 128 where 1 or 0 is asked.
		"\x02a\x00\x00\x04",
		"\x02a\x00\x00\x01",
		"\x02a\x00\x00\x03",
		"\x02a\x00\x00\x80\x02",
		"\x02a\x00\x00\xfe\xff\xff\xff\xff\xff\xff\xff\xff\x01",
		"\x02a\x00\x00\xff\xff\xff\xff\xff\xff\xff\xff\xff\x01",
		// Gone, with a value or an End.
		"\x02a\x02v\x00\x02",
		"\x02a\x00\x02\x02",
		// End is -1, 2^40 + 1, the greatest, the lowest, or beyond.
		"\x02a\x00\x01\x00",
		"\x02a\x00\x82\x80\x80\x80\x80\x40\x00",
		"\x02a\x00\xfe\xff\xff\xff\xff\xff\xff\xff\xff\x01\x00",
		"\x02a\x00\xff\xff\xff\xff\xff\xff\xff\xff\xff\x01\x00",
		"\x02a\x00\xfe\xff\xff\xff\xff\xff\xff\xff\xff\x02\x00",
		// Longer than needed: each of the four.
		"\x82\x00a\x00\x00\x00",
		"\x02a\x80\x00\x00\x00",
		"\x02a\x00\x80\x00\x00",
		"\x02a\x00\x00\x80\x00",
		"\x02a\x00\x00\x82\x00",
	} {
		wantForm(t, b)
		if b != "" {
			wantForm(t, "\x02a\x02v\x0e\x00"+b)
			wantForm(t, "\x02z\x00\x00\x02"+b)
		}
	}
	wantForm(t, "\x02a\x80\x80\x08"+strings.Repeat("v", 1<<16)+"\x00\x00")
	wantForm(t, "\x82\x80\x08"+strings.Repeat("k", 1<<16+1)+"\x00\x00\x00")
	if xs, err := item.Decode(nil); len(xs) != 0 || err != api.ErrForm {
		t.Errorf("P7.1: Decode(nil): %v, %v", xs, err)
	}
}

// checkImage says that what is read is what was written, to the byte, and is ErrForm else; it answers whether it was read.
func checkImage(t *testing.T, b []byte) bool {
	t.Helper()
	xs, err := item.Decode(b)
	if err != api.OK {
		if err != api.ErrForm || len(xs) != 0 {
			t.Fatalf("P7.1: Decode(%x): %#v, %v, want ErrForm", b, xs, err)
		}
		return false
	}
	for _, x := range xs {
		if !item.May(x) {
			t.Fatalf("P7.1: Decode(%x): %#v may not be", b, x)
		}
	}
	if len(xs) == 0 || refEncode(xs...) != string(b) {
		t.Fatalf("P7.1: Decode(%x): %#v, which is %x", b, xs, refEncode(xs...))
	}
	return true
}

// P7.1: each beginning of entries, and each of their bytes changed to each other value, taken out, or put in.
func TestDecodeSpoilt(t *testing.T) {
	var b []byte
	var whole []int
	for _, x := range []api.Item{
		{Key: "key", Val: "value", End: 1 << 40},
		{Key: "\x00\x02", Gone: true},
		{Key: "\xff", End: 64},
		{Key: strings.Repeat("k", 40), Val: strings.Repeat("\x00", 200), End: 8191},
	} {
		b = append(b, refEncode(x)...)
		whole = append(whole, len(b))
	}
	for n := range b {
		if read := checkImage(t, b[:n]); read != slices.Contains(whole, n) {
			t.Errorf("P7.1: Decode of the first %d bytes: %v", n, read)
		}
		checkImage(t, b[n:])
		checkImage(t, slices.Delete(slices.Clone(b), n, n+1))
		for c := range 256 {
			other := slices.Clone(b)
			other[n] = byte(c)
			checkImage(t, other)
			checkImage(t, slices.Insert(slices.Clone(b), n, byte(c)))
		}
	}
}

// P7.1: all lists of some bytes that count most; how many of them are entries was counted by hand.
func TestDecodeAll(t *testing.T) {
	for _, c := range []struct {
		bytes string
		most  int
		want  int
	}{{"\x00\x02", 15, 426}, {"\x00\x02\x80", 10, 159}, {"\x00\x01\x02\x03\x04\x80\xff", 6, 399}} {
		read := 0
		var walk func(b []byte)
		walk = func(b []byte) {
			if checkImage(t, b) {
				read++
			}
			if len(b) == c.most {
				return
			}
			for _, x := range []byte(c.bytes) {
				walk(append(b, x))
			}
		}
		walk(make([]byte, 0, c.most))
		if read != c.want {
			t.Errorf("P7.1: of all lists of at most %d bytes of %x %d are read, want %d", c.most, c.bytes, read, c.want)
		}
	}
}

// P7.1: entries of all kinds by chance, there and back, and spoilt.
func TestWalk(t *testing.T) {
	r := rand.New(rand.NewPCG(7, 1))
	for range 3000 {
		xs := make([]api.Item, 1+r.IntN(6))
		for i := range xs {
			xs[i].Key = string(bytes.Repeat([]byte{byte(r.IntN(256))}, 1+r.IntN(api.MaxKey)))
			if xs[i].Gone = r.IntN(3) == 0; !xs[i].Gone {
				xs[i].Val = string(bytes.Repeat([]byte{byte(r.IntN(256))}, r.IntN(api.MaxVal+1)))
				xs[i].End = r.Int64N(1<<40+1) >> r.IntN(41)
			}
		}
		b := item.Encode(xs...)
		if string(b) != refEncode(xs...) {
			t.Fatalf("P7.1: Encode(%#v): %x", xs, b)
		}
		wantItems(t, string(b), xs...)
		b[r.IntN(len(b))] = byte(r.IntN(256))
		checkImage(t, b)
		checkImage(t, b[r.IntN(len(b)):])
	}
}

// P7.1: keys and values in bytes, of entries that may be and of others.
func TestSize(t *testing.T) {
	for _, c := range []struct {
		xs   []api.Item
		want int
	}{
		{nil, 0},
		{[]api.Item{}, 0},
		{[]api.Item{{}}, 0},
		{[]api.Item{{Key: "a"}}, 1},
		{[]api.Item{{Key: "abc", Val: "xy", End: 1 << 40}}, 5},
		{[]api.Item{{Key: "abc", Gone: true}, {Key: "d", Val: "efgh"}, {Key: "abc"}}, 11},
		{[]api.Item{{Key: "雪", Val: "\x00\xff"}}, 5},
		{[]api.Item{{Val: strings.Repeat("v", 300), End: -1, Gone: true}, {Key: strings.Repeat("k", 50)}}, 350},
	} {
		if got := item.Size(c.xs...); got != c.want {
			t.Errorf("P7.1: Size of %d entries: %d, want %d", len(c.xs), got, c.want)
		}
	}
}

// P0.3: lists that are handed in stay as they are, spare room too, and no answer shares memory with another.
func TestNewMemory(t *testing.T) {
	x := api.Item{Key: "key", Val: "val", End: 300}
	room := []api.Item{x, x, x}
	xs := room[:1]
	one, two := item.Encode(xs...), item.Encode(xs...)
	list, err := item.Decode(two)
	again, _ := item.Decode(two)
	item.Size(xs...)
	if err != api.OK || !slices.Equal(room, []api.Item{x, x, x}) || string(two) != refEncode(x) {
		t.Errorf("P0.3: what was handed in is changed: %#v, %x", room, two)
	}
	clear(room)
	clear(one[:cap(one)])
	if string(two) != refEncode(x) {
		t.Errorf("P0.3: Encode shares memory: %x", two)
	}
	clear(two[:cap(two)])
	clear(again[:cap(again)])
	if !slices.Equal(list, []api.Item{x}) {
		t.Errorf("P0.3: Decode shares memory: %#v", list)
	}
}

// P0.3: bytes with room behind them are read to their length, and stay as they are.
func TestSpareRoom(t *testing.T) {
	x := api.Item{Key: "key", Val: "val", End: 300}
	want := refEncode(x, x)
	room := []byte(want)
	for n := range room {
		_, err := item.Decode(room[:n])
		if (err == api.OK) != (n == len(want)/2) || string(room) != want {
			t.Errorf("P0.3: Decode of %d bytes of %d: %v, %x", n, len(want), err, room)
		}
	}
}
