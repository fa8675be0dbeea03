package super

import (
	"math"
	"strings"
	"testing"

	"icehouse/api"
	"icehouse/frame"
)

// P5.1: the shortest, the longest and the last record fit in a sector, and come back as they were.
func TestRecord(t *testing.T) {
	for _, turn := range []int64{1, 2, 63, 64, 8191, 8192, 1 << 31, api.MaxNum} {
		for size := range maxText + 1 {
			r := record{turn: turn, text: strings.Repeat("\xff", size)}
			b, err := frame.Make(kind, r.turn, r.text)
			if got := parse(b); err != api.OK || got != r {
				t.Errorf("P5.1: turn %d, %d bytes: %d, %q, %v", turn, size, got.turn, got.text, err)
			}
		}
	}
}

// P0.1 and P5.1: a sector that is whole is not enough: what no Save wrote does not count.
func TestForged(t *testing.T) {
	long := strings.Repeat("a", maxText+1)
	for _, r := range []record{
		{0, "a"}, {-1, "a"}, {math.MinInt64, "a"}, {api.MaxNum + 1, "a"}, {math.MaxInt64, "a"}, {1, long}, {api.MaxNum, long},
	} {
		b, err := frame.Make(kind, r.turn, r.text)
		if err != api.OK {
			t.Fatalf("%d, %q: %v", r.turn, r.text, err)
		}
		if got := parse(b); got != (record{}) {
			t.Errorf("P5.1: turn %d, %q: %d, %q", r.turn, r.text, got.turn, got.text)
		}
	}
}
