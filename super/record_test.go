package super

import (
	"strings"
	"testing"

	"icehouse/api"
	"icehouse/num"
)

// forged is a sector whose sum is right, whatever its bytes say.
func forged(body []byte) []byte {
	b := make([]byte, api.Sector)
	copy(b[:sumAt], body)
	copy(b[sumAt:], sum(b))
	return b
}

// P5.1: the shortest, the longest and the last record come back as they were, and fit in a sector.
func TestRecord(t *testing.T) {
	for _, turn := range []int64{1, 2, 63, 64, 8191, 8192, 1 << 31, api.MaxNum} {
		for size := range maxText + 1 {
			r := record{turn: turn, text: strings.Repeat("\xff", size)}
			b := r.sector()
			if got := parse(b); len(b) != api.Sector || got != r {
				t.Errorf("P5.1: turn %d, %d bytes: %d, %q", turn, size, got.turn, got.text)
			}
		}
	}
}

// P0.1 and P5.1: a right sum alone is not enough: what no Save wrote is not whole.
func TestForged(t *testing.T) {
	for what, body := range map[string][]byte{
		"nothing":                nil,
		"turn 0":                 num.PutText(num.Put(nil, 0), "a"),
		"a turn below 0":         num.PutText(num.Put(nil, -1), "a"),
		"the lowest turn":        num.PutText(num.Put(nil, -1<<63), "a"),
		"a turn beyond MaxNum":   num.PutText(num.Put(nil, api.MaxNum+1), "a"),
		"the greatest turn":      num.PutText(num.Put(nil, 1<<63-1), "a"),
		"a turn that never ends": []byte(strings.Repeat("\x80", sumAt)),
		"a turn that is longer":  []byte("\x82\x00\x02a"),
		"a text of 41 bytes":     num.PutText(num.Put(nil, 1), strings.Repeat("a", maxText+1)),
		"a text as far as goes":  num.PutText(num.Put(nil, 1), strings.Repeat("a", sumAt-2)),
		"a text beyond the end":  num.Put(nil, 1, 1<<16),
		"a length below 0":       num.Put(nil, 1, -1),
		"a length that is huge":  num.Put(nil, 1, 1<<62),
	} {
		if got := parse(forged(body)); got != (record{}) {
			t.Errorf("P5.1: %s: %d, %q", what, got.turn, got.text)
		}
	}
}
