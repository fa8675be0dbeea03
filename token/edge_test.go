package token

import "testing"

const edge = 1 << 40 // the last number

// These tests lie within the package: nobody gives 2^40 tokens one by one.

// P18.1: 2^40 is the last number; then 0, and nothing is given, whatever was used or killed meanwhile.
func TestEdge(t *testing.T) {
	x := New()
	x.Give("a")
	x.last = edge - 3
	for _, want := range []int64{edge - 2, edge - 1, edge, 0, 0} {
		if got := x.Give("a"); got != want {
			t.Errorf("P18.1: Give: %d, want %d", got, want)
		}
	}
	if got := x.Len(); got != 4 {
		t.Errorf("P18.1: Len: %d, want 4", got)
	}
	if key, ok := x.Use(edge); key != "a" || !ok {
		t.Errorf("P18.1: Use(2^40): %q, %v", key, ok)
	}
	if key, ok := x.Use(edge); key != "" || ok {
		t.Errorf("P18.1: Use(2^40) again: %q, %v", key, ok)
	}
	for _, id := range []int64{0, edge + 1} {
		if key, ok := x.Use(id); key != "" || ok {
			t.Errorf("P18.1: Use(%d): %q, %v", id, key, ok)
		}
	}
	if got := x.Give("b"); got != 0 {
		t.Errorf("P18.1: Give behind Use: %d, want 0", got)
	}
	if got := x.Kill("b"); got != 0 {
		t.Errorf("P18.1: Kill of a key that was given none: %d", got)
	}
	if got := x.Clear(); got != 3 {
		t.Errorf("P18.1: Clear: %d, want 3", got)
	}
	if got := x.Give("a"); got != 0 {
		t.Errorf("P18.1: Give behind Clear: %d, want 0", got)
	}
	if key, ok := x.Use(edge - 1); key != "a" || ok {
		t.Errorf("P18.1: Use(2^40 - 1), which was killed: %q, %v", key, ok)
	}
	if got := x.Len(); got != 2 {
		t.Errorf("P18.1: Len: %d, want 2", got)
	}
}

// What is kept of keys is no more than those that have good tokens.
func TestKeys(t *testing.T) {
	x := New()
	for _, key := range []string{"a", "b", "a", "c", "d"} {
		x.Give(key)
	}
	for _, s := range []struct {
		call func()
		want int
	}{
		{func() { x.Use(1) }, 4},
		{func() { x.Use(3) }, 3},
		{func() { x.Kill("b", "b", "z") }, 2},
		{func() { x.Use(2) }, 2},
		{func() { x.Clear() }, 0},
		{func() { x.Give("a") }, 1},
	} {
		s.call()
		if got := len(x.live); got != s.want {
			t.Errorf("%d keys are kept, want %d", got, s.want)
		}
	}
}
