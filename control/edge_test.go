package control

import (
	"fmt"
	"math"
	"slices"
	"testing"

	"icehouse/api"
	"icehouse/dev"
	"icehouse/num"
	"icehouse/ring"
	"icehouse/super"
)

// The tests here know how the state lies in its text.

// P23.1: the shortest and the longest state fit in a slot, and come back as they were.
func TestState(t *testing.T) {
	for _, nodes := range [][]int{{1}, {5}, {2, 4}, {1, 2, 3, 4, 5}} {
		for _, epoch := range []int64{1, 2, 63, 64, 8191, 8192, 1 << 31, api.MaxNum - 1, api.MaxNum} {
			for _, top := range []int64{epoch, epoch + 1, 1 << 33, api.MaxNum} {
				s := state{at: ring.New(epoch, nodes...), top: top}
				got, ok := parse(s.text())
				if want := top >= epoch && top <= api.MaxNum; ok != want {
					t.Errorf("P23.1: epoch %d, top %d: %v", epoch, top, ok)
				} else if ok && (got.at.Epoch() != epoch || got.top != top || !slices.Equal(got.at.Nodes(), nodes)) {
					t.Errorf("P23.1: epoch %d of %v, top %d: %d of %v, %d", epoch, nodes, top, got.at.Epoch(), got.at.Nodes(), got.top)
				}
				if _, err := super.Make(dev.New(2), slotsAt, s.text()); err != api.OK {
					t.Errorf("P23.1: epoch %d of %v, top %d: %v", epoch, nodes, top, err)
				}
			}
		}
	}
}

// P23.1: ErrCorrupt: slots that are whole, but have no state that may be.
func TestForged(t *testing.T) {
	laid := func(ns ...int64) string { return string(num.Put(nil, ns...)) }
	for _, text := range []string{
		"", laid(1), laid(1, 1), laid(0, 0, 1), laid(0, 1, 1), laid(-1, 1, 1), laid(2, 1, 1), laid(1, 0, 1), laid(1, -1, 1),
		laid(api.MaxNum+1, api.MaxNum+1, 1), laid(1, api.MaxNum+1, 1), laid(1, math.MaxInt64, 1), laid(math.MaxInt64, math.MaxInt64, 1), laid(math.MinInt64, math.MinInt64, 1),
		laid(1, 1, 0), laid(1, 1, 6), laid(1, 1, -1), laid(1, 1, 1<<32+1), laid(1, 1, 2, 1), laid(1, 1, 1, 1), laid(1, 1, 1, 2, 3, 4, 5, 6), laid(1, 1, 1, 2, 3, 4, 5, 5),
		laid(1, 1, 1) + "\x80", laid(1, 1, 1) + "\x82\x00", laid(1, 1) + "\x80\x80\x80\x80\x80\x80\x80\x80\x80\x02",
	} {
		d := dev.New(2)
		if _, err := super.Make(d, slotsAt, []byte(text)); err != api.OK {
			t.Fatal(err)
		}
		if c, err := Open(d, nil); c != nil || err != api.ErrCorrupt {
			t.Errorf("P23.1: Open of the text %x: %v, want ErrCorrupt", text, err)
		}
	}
}

// P23.2: 2^40 is the last number: a message has none above it.
func TestLastNumber(t *testing.T) {
	d := dev.New(2)
	s := state{at: ring.New(7, 1, 2), top: api.MaxNum - 1}
	if _, err := super.Make(d, slotsAt, s.text()); err != api.OK {
		t.Fatal(err)
	}
	c, err := Open(d, nil)
	if err != api.OK {
		t.Fatal(err)
	}
	if l, err := c.Join(3); err != api.OK || len(l) != 3 || c.Under() != api.MaxNum {
		t.Errorf("P23.2: the last number: %v, %v", l, err)
	}
	c.Back()
	for _, x := range []struct {
		begin func(int) ([]api.Msg, api.Errno)
		node  int
	}{{c.Join, 3}, {c.Leave, 2}, {c.Lose, 2}} {
		if l, err := x.begin(x.node); len(l) != 0 || err != api.ErrForm || c.Under() != 0 {
			t.Errorf("P23.2: a number beyond the last: %v, %v", l, err)
		}
	}
	if e, err := Open(d.Crash(), nil); err != api.OK || e.Epoch() != 7 || fmt.Sprint(e.Members()) != "[1 2]" {
		t.Errorf("P23.1: Open behind it: %v", err)
	}
}
