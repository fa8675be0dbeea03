package frame

import (
	"bytes"
	"math"
	"slices"
	"strings"
	"testing"

	"icehouse/api"
	"icehouse/num"
)

const kind = 'T'

// forged is a sector whose sum is right, whatever its bytes say.
func forged(body []byte) []byte {
	b := make([]byte, api.Sector)
	copy(b[:sumAt], body)
	copy(b[sumAt:], sum(kind, b))
	return b
}

// refused says that Parse finds the sector not whole, and answers nothing else.
func refused(t *testing.T, what string, sector []byte) {
	t.Helper()
	if n, text, err := Parse(kind, sector); n != 0 || text != "" || err != api.ErrCorrupt {
		t.Errorf("%s: %d, %q, %v, want ErrCorrupt", what, n, text, err)
	}
}

// Numbers of all widths, and texts as far as they fit, come back as they were; one byte more does not fit.
func TestThereAndBack(t *testing.T) {
	for _, n := range []int64{0, 1, -1, 63, 64, 8191, 8192, 1 << 31, api.MaxNum, math.MaxInt64, math.MinInt64} {
		most := sumAt - len(num.Put(nil, n)) - 1
		for size := range most + 1 {
			text := strings.Repeat("\xff", size)
			b, err := Make(kind, n, text)
			if len(b) != api.Sector || err != api.OK {
				t.Fatalf("Make(%d, %d bytes): %d bytes, %v", n, size, len(b), err)
			}
			if m, got, err := Parse(kind, b); m != n || got != text || err != api.OK {
				t.Errorf("Parse of %d, %d bytes: %d, %q, %v", n, size, m, got, err)
			}
		}
		for _, size := range []int{most + 1, api.Sector, 1 << 16, 1<<16 + 1} {
			if b, err := Make(kind, n, strings.Repeat("a", size)); b != nil || err != api.ErrForm {
				t.Errorf("Make(%d, %d bytes): %x, %v, want ErrForm", n, size, b, err)
			}
		}
	}
}

// Each byte, changed to each other one, is told.
func TestSpoiltByte(t *testing.T) {
	for _, text := range []string{"", "one", "\x00\x00", strings.Repeat("x", 53)} {
		b, _ := Make(kind, 7, text)
		for i := range b {
			for by := 1; by < 256; by++ {
				b[i] ^= byte(by)
				refused(t, "a spoilt byte", b)
				b[i] ^= byte(by)
			}
		}
	}
}

// A sector of one kind is not whole to another.
func TestKinds(t *testing.T) {
	for a := range 256 {
		sector, err := Make(byte(a), 7, "text")
		if err != api.OK {
			t.Fatalf("Make of the kind %d: %v", a, err)
		}
		for b := range 256 {
			n, text, err := Parse(byte(b), sector)
			if whole := n == 7 && text == "text" && err == api.OK; whole != (a == b) {
				t.Errorf("a sector of the kind %d, as one of the kind %d: %d, %q, %v", a, b, n, text, err)
			}
		}
	}
}

// What is no sector, or was never laid by Make, is not whole.
func TestNotWhole(t *testing.T) {
	whole, _ := Make(kind, 7, "text")
	for c := range 256 {
		refused(t, "one byte throughout", bytes.Repeat([]byte{byte(c)}, api.Sector))
	}
	for size := range api.Sector {
		refused(t, "a sector that is cut", whole[:size])
	}
	refused(t, "nothing", nil)
	refused(t, "a byte more", append(slices.Clone(whole), 0))
}

// A right sum alone is not enough.
func TestForged(t *testing.T) {
	for what, body := range map[string][]byte{
		"a number that never ends": bytes.Repeat([]byte{0x80}, sumAt),
		"a number that is longer":  []byte("\x82\x00\x02a"),
		"a number that is greater": []byte("\xff\xff\xff\xff\xff\xff\xff\xff\xff\x02\x02a"),
		"a text beyond the end":    num.Put(nil, 1, 1<<16),
		"a text as far as the sum": num.Put(nil, 1, sumAt-1),
		"a length below 0":         num.Put(nil, 1, -1),
		"a length that is huge":    num.Put(nil, 1, 1<<62),
	} {
		refused(t, what, forged(body))
	}
	if n, text, err := Parse(kind, forged(nil)); n != 0 || text != "" || err != api.OK {
		t.Errorf("the number 0 and no text: %d, %q, %v", n, text, err)
	}
}

// Parse leaves the sector and keeps nothing of it; two sectors share nothing.
func TestMemory(t *testing.T) {
	one, _ := Make(kind, 7, "text")
	two, _ := Make(kind, 7, "text")
	before := slices.Clone(one)
	_, text, _ := Parse(kind, one)
	if !bytes.Equal(one, before) {
		t.Errorf("Parse changed its sector: %x", one)
	}
	clear(one[:cap(one)])
	if text != "text" || !bytes.Equal(two, before) {
		t.Errorf("memory is shared: %q, %x", text, two)
	}
}
