package dev_test

import (
	"bytes"
	"math"
	"slices"
	"strings"
	"testing"

	"icehouse/api"
	"icehouse/dev"
)

// blank is a sector that was never written.
var blank = strings.Repeat("\x00", 64)

// over is a sector that was was, with b written over its beginning.
func over(was, b string) string { return b + was[len(b):] }

// contents reads all sectors.
func contents(t *testing.T, d *dev.Dev) []string {
	t.Helper()
	var out []string
	for i := range d.Len() {
		b, err := d.Read(i)
		if err != api.OK || len(b) != 64 {
			t.Fatalf("P4.1: Read(%d) of %d sectors: %d bytes, %v", i, d.Len(), len(b), err)
		}
		out = append(out, string(b))
	}
	return out
}

// check holds all that a device tells against what is wanted.
func check(t *testing.T, what string, d *dev.Dev, want []string, loose []int, calls int) {
	t.Helper()
	if got := contents(t, d); !slices.Equal(got, want) {
		t.Errorf("%s: the sectors are %.9q, want %.9q", what, got, want)
	}
	if got := d.Loose(); !slices.Equal(got, loose) {
		t.Errorf("%s: Loose: %v, want %v", what, got, loose)
	}
	if got := d.Calls(); got != calls {
		t.Errorf("%s: Calls: %d, want %d", what, got, calls)
	}
}

func write(t *testing.T, d *dev.Dev, i int, b string) {
	t.Helper()
	if err := d.Write(i, []byte(b)); err != api.OK {
		t.Fatalf("P4.1: Write(%d, %.9q): %v", i, b, err)
	}
}

func flush(t *testing.T, d *dev.Dev) {
	t.Helper()
	if err := d.Flush(); err != api.OK {
		t.Fatalf("P4.1: Flush: %v", err)
	}
}

// P4.1: as many sectors as were asked for, or the nearer end; all of them 0, and nothing beyond.
func TestNew(t *testing.T) {
	for _, c := range []struct{ n, want int }{
		{1, 1}, {2, 2}, {1200, 1200}, {2047, 2047}, {2048, 2048},
		{0, 1}, {-1, 1}, {math.MinInt64, 1},
		{2049, 2048}, {1 << 32, 2048}, {1<<32 + 5, 2048}, {math.MaxInt64, 2048},
	} {
		d := dev.New(c.n)
		if d.Len() != c.want {
			t.Errorf("P4.1: New(%d) has %d sectors, want %d", c.n, d.Len(), c.want)
		}
		check(t, "P4.1: New", d, slices.Repeat([]string{blank}, c.want), nil, 0)
		if b, err := d.Read(c.want); len(b) != 0 || err != api.ErrRange {
			t.Errorf("P4.1: Read(%d) of %d sectors: %x, %v, want ErrRange", c.want, c.want, b, err)
		}
		write(t, d, c.want-1, "last")
		if err := d.Write(c.want, []byte("beyond")); err != api.ErrRange {
			t.Errorf("P4.1: Write(%d) of %d sectors: %v, want ErrRange", c.want, c.want, err)
		}
	}
}

// P4.1: the first bytes are those of b, the rest stays, in that sector alone.
func TestWrite(t *testing.T) {
	full := strings.Repeat("\xff", 64)
	want := []string{blank, blank, blank}
	d := dev.New(3)
	for k, c := range []struct {
		i int
		b string
	}{
		{1, full}, {1, "a"}, {1, "\x00\x01"}, {1, ""}, {1, full[:63]}, {0, "first"}, {2, full[:32]},
		{2, blank[:31]}, {0, ""}, {1, blank}, {2, "last"}, {0, full}, {0, strings.Repeat("é", 32)},
	} {
		write(t, d, c.i, c.b)
		want[c.i] = over(want[c.i], c.b)
		if got := contents(t, d); !slices.Equal(got, want) {
			t.Errorf("P4.1: write %d, of sector %d: %q, want %q", k, c.i, got, want)
		}
		if d.Calls() != k+1 {
			t.Errorf("P4.1: Calls: %d behind %d writes", d.Calls(), k+1)
		}
	}
}

// P4.1: what is refused leaves sectors, Loose and Calls as they were; where both errors apply it is ErrRange.
func TestRefused(t *testing.T) {
	d := dev.New(4)
	write(t, d, 1, "kept")
	write(t, d, 3, "too")
	flush(t, d)
	write(t, d, 2, "loose")
	for _, c := range []struct {
		i    int
		size int
		want api.Errno
	}{
		{-1, 0, api.ErrRange}, {-1, 1, api.ErrRange}, {-1, 65, api.ErrRange},
		{4, 0, api.ErrRange}, {4, 64, api.ErrRange}, {4, 65, api.ErrRange},
		{2048, 1, api.ErrRange}, {1 << 32, 1, api.ErrRange}, {1<<32 + 1, 1, api.ErrRange},
		{math.MaxInt64, 1000, api.ErrRange}, {math.MinInt64, 1, api.ErrRange},
		{0, 65, api.ErrForm}, {1, 65, api.ErrForm}, {2, 65, api.ErrForm}, {3, 128, api.ErrForm}, {1, 1 << 20, api.ErrForm},
	} {
		if err := d.Write(c.i, bytes.Repeat([]byte{'x'}, c.size)); err != c.want {
			t.Errorf("P4.1: Write(%d) of %d bytes: %v, want %v", c.i, c.size, err, c.want)
		}
	}
	for _, i := range []int{-1, 4, 5, -4, 2048, 1 << 32, 1<<32 + 1, math.MaxInt64, math.MinInt64} {
		if b, err := d.Read(i); len(b) != 0 || err != api.ErrRange {
			t.Errorf("P4.1: Read(%d): %x, %v, want ErrRange", i, b, err)
		}
	}
	want := []string{blank, over(blank, "kept"), over(blank, "loose"), over(blank, "too")}
	check(t, "P4.1: behind what was refused", d, want, []int{2}, 4)
	want[2] = blank
	check(t, "P4.2: behind what was refused", d.Crash(), want, nil, 0)
}

// P4.1: sectors are told rising and once, whatever was written, and those alone that were since the last Flush.
func TestLoose(t *testing.T) {
	d := dev.New(40)
	for k, c := range []struct {
		writes []int
		want   []int
	}{
		{nil, nil},
		{[]int{7}, []int{7}},
		{[]int{39, 0, 20}, []int{0, 20, 39}},
		{[]int{5, 4, 5, 3, 4, 5}, []int{3, 4, 5}},
		{[]int{12, 11, 10, 9, 8, 7, 6, 5, 4, 3, 2, 1, 0}, []int{0, 1, 2, 3, 4, 5, 6, 7, 8, 9, 10, 11, 12}},
		{nil, nil},
	} {
		for _, i := range c.writes {
			write(t, d, i, "same")
		}
		for range 2 {
			if got := d.Loose(); !slices.Equal(got, c.want) {
				t.Errorf("P4.1, %d: Loose: %v, want %v", k, got, c.want)
			}
		}
		flush(t, d)
		if got := d.Loose(); len(got) != 0 {
			t.Errorf("P4.1, %d: Loose behind Flush: %v", k, got)
		}
	}
	write(t, d, 9, "same")
	write(t, d, 8, "")
	if got := d.Loose(); !slices.Equal(got, []int{8, 9}) {
		t.Errorf("P4.1: Loose of writes that changed nothing: %v", got)
	}
}

// P4.1: each Write that was OK and each Flush counts, those that change nothing too; nothing else does.
func TestCalls(t *testing.T) {
	d := dev.New(2)
	want := 0
	for range 3 {
		flush(t, d)
		flush(t, d)
		write(t, d, 0, "")
		write(t, d, 1, "abc")
		write(t, d, 1, "abc")
		d.Write(2, nil)
		d.Write(0, make([]byte, 65))
		d.Read(0)
		d.Read(2)
		d.Loose()
		d.Len()
		d.Crash(true, true)
		want += 5
		if got := d.Calls(); got != want {
			t.Errorf("P4.1: Calls: %d, want %d", got, want)
		}
	}
}

// P4.2: each choice of those that stay, told by lists that are too short and too long as well.
func TestCrashKeep(t *testing.T) {
	d := dev.New(9)
	flushed := slices.Repeat([]string{blank}, 9)
	for i := range 6 {
		write(t, d, i, "flushed")
		flushed[i] = over(blank, "flushed")
	}
	flush(t, d)
	loose := []int{1, 4, 5, 7}
	now := slices.Clone(flushed)
	for _, i := range []int{7, 5, 1, 4} {
		write(t, d, i, "now")
		now[i] = over(now[i], "now")
	}
	for size := range 8 {
		for choice := range 1 << size {
			keep := make([]bool, size)
			want := slices.Clone(flushed)
			for j := range keep {
				keep[j] = choice>>j&1 == 1
				if keep[j] && j < len(loose) {
					want[loose[j]] = now[loose[j]]
				}
			}
			check(t, "P4.2: Crash", d.Crash(keep...), want, nil, 0)
		}
	}
	check(t, "P4.2: Crash changed the old one", d, now, loose, 11)
}

// P4.2: a sector goes back to what it was at the last Flush, neither to an elder state nor to one between writes.
func TestCrashGoesBackToFlush(t *testing.T) {
	d := dev.New(2)
	write(t, d, 0, "elder")
	flush(t, d)
	write(t, d, 0, "AB")
	write(t, d, 0, "last")
	flush(t, d)
	write(t, d, 0, "1")
	write(t, d, 0, "12")
	write(t, d, 0, "")
	write(t, d, 0, "\x003")
	check(t, "P4.2: none kept", d.Crash(), []string{over(blank, "lastr"), blank}, nil, 0)
	check(t, "P4.2: kept", d.Crash(true), []string{over(blank, "\x003str"), blank}, nil, 0)
	flush(t, d)
	check(t, "P4.2: behind Flush", d.Crash(), []string{over(blank, "\x003str"), blank}, nil, 0)
	check(t, "P4.2: behind Flush, kept", d.Crash(true, true), []string{over(blank, "\x003str"), blank}, nil, 0)
}

// P4.2: all lasts on the other device, through further crashes, and it is a device of its own.
func TestCrashIsAnother(t *testing.T) {
	d := dev.New(3)
	write(t, d, 0, "a")
	write(t, d, 1, "b")
	write(t, d, 2, "c")
	c := d.Crash(true, false, true)
	mine := []string{over(blank, "a"), blank, over(blank, "c")}
	check(t, "P4.2: through a second crash", c.Crash(), mine, nil, 0)
	write(t, c, 0, "other")
	write(t, c, 1, "b")
	check(t, "P4.2: through a crash with writes", c.Crash(false, true), []string{mine[0], over(blank, "b"), mine[2]}, nil, 0)
	check(t, "P4.2: the old one", d, []string{over(blank, "a"), over(blank, "b"), over(blank, "c")}, []int{0, 1, 2}, 3)
	check(t, "P4.2: the old one's crash", d.Crash(false, true), []string{blank, over(blank, "b"), blank}, nil, 0)
	write(t, d, 2, "C")
	flush(t, d)
	check(t, "P4.2: the other one", c, []string{over(blank, "other"), over(blank, "b"), mine[2]}, []int{0, 1}, 2)
	e := dev.New(2).Crash()
	write(t, e, 1, "new")
	check(t, "P4.2: nothing was written", e, []string{blank, over(blank, "new")}, []int{1}, 1)
}

// P4.2: a nil device is down, whatever it is asked, and tells nothing.
func TestNil(t *testing.T) {
	var none *dev.Dev
	for _, i := range []int{math.MinInt64, -1, 0, 1, math.MaxInt64} {
		if b, err := none.Read(i); len(b) != 0 || err != api.ErrDown {
			t.Errorf("P4.2: Read(%d) of nil: %x, %v", i, b, err)
		}
		for _, size := range []int{0, 1, 64, 65} {
			if err := none.Write(i, make([]byte, size)); err != api.ErrDown {
				t.Errorf("P4.2: Write(%d) of %d bytes, of nil: %v", i, size, err)
			}
		}
	}
	if err := none.Flush(); err != api.ErrDown {
		t.Errorf("P4.2: Flush of nil: %v", err)
	}
	if none.Len() != 0 || none.Calls() != 0 || len(none.Loose()) != 0 {
		t.Errorf("P4.2: nil tells %d, %d, %v", none.Len(), none.Calls(), none.Loose())
	}
	if none.Crash() != nil || none.Crash(true, false) != nil {
		t.Error("P4.2: Crash of nil is something")
	}
}

// P0.1: a device that New did not make has no sectors, and panics at nothing.
func TestZero(t *testing.T) {
	d := new(dev.Dev)
	if b, err := d.Read(0); len(b) != 0 || err != api.ErrRange {
		t.Errorf("P0.1: Read: %x, %v", b, err)
	}
	if err := d.Write(0, []byte("a")); err != api.ErrRange {
		t.Errorf("P0.1: Write: %v", err)
	}
	flush(t, d)
	check(t, "P0.1: zero", d, nil, nil, 1)
	check(t, "P0.1: zero's crash", d.Crash(true), nil, nil, 0)
}

// P0.3: what is handed in stays, its spare room too, and is not kept; what is answered is new memory, its spare room too.
func TestMemory(t *testing.T) {
	d := dev.New(3)
	room := []byte("abcdefgh")
	for i := range 3 {
		if err := d.Write(i, room[:3]); err != api.OK {
			t.Fatalf("P4.1: Write: %v", err)
		}
	}
	if string(room) != "abcdefgh" {
		t.Errorf("P0.3: Write changed what it was given: %q", room)
	}
	clear(room)
	want := slices.Repeat([]string{over(blank, "abc")}, 3)
	one, _ := d.Read(1)
	two, _ := d.Read(1)
	three, _ := d.Read(2)
	fill(one)
	if string(two) != want[1] || string(three) != want[2] {
		t.Errorf("P0.3: two answers of Read share memory: %.9q, %.9q", two, three)
	}
	loose := d.Loose()
	again := d.Loose()
	fill(loose)
	if !slices.Equal(again, []int{0, 1, 2}) {
		t.Errorf("P0.3: two answers of Loose share memory: %v", again)
	}
	keep := []bool{true, false, true, true, true}
	c := d.Crash(keep[:2]...)
	if !slices.Equal(keep, []bool{true, false, true, true, true}) {
		t.Errorf("P0.3: Crash changed what it was given: %v", keep)
	}
	keep[0] = false
	check(t, "P0.3: behind Crash", c, []string{want[0], blank, blank}, nil, 0)
	check(t, "P0.3: behind all of them", d, want, []int{0, 1, 2}, 3)
}

// fill writes into all of s, and into its spare room.
func fill[E byte | int](s []E) {
	s = s[:cap(s)]
	for i := range s {
		s[i] = 99
	}
}

// ref tells a device from its history alone: each sector's states, one behind the other, and how many of them last.
type ref struct {
	states [][]string
	lasts  []int
	calls  int
}

func newRef(n int) *ref {
	r := &ref{lasts: slices.Repeat([]int{1}, n)}
	for range n {
		r.states = append(r.states, []string{blank})
	}
	return r
}

func (r *ref) write(i int, b string) api.Errno {
	switch {
	case i < 0 || i >= len(r.states):
		return api.ErrRange
	case len(b) > 64:
		return api.ErrForm
	}
	r.calls++
	was := r.states[i]
	r.states[i] = append(was, over(was[len(was)-1], b))
	return api.OK
}

func (r *ref) flush() {
	r.calls++
	for i, states := range r.states {
		r.lasts[i] = len(states)
	}
}

func (r *ref) now() []string {
	var out []string
	for _, states := range r.states {
		out = append(out, states[len(states)-1])
	}
	return out
}

func (r *ref) loose() []int {
	var out []int
	for i, states := range r.states {
		if len(states) > r.lasts[i] {
			out = append(out, i)
		}
	}
	return out
}

func (r *ref) crash(keep []bool) *ref {
	after := newRef(len(r.states))
	j := 0
	for i, states := range r.states {
		stays := states[len(states)-1]
		if len(states) > r.lasts[i] {
			if j >= len(keep) || !keep[j] {
				stays = states[r.lasts[i]-1]
			}
			j++
		}
		after.states[i] = []string{stays}
	}
	return after
}

// dice answers the same numbers each time: each below its n.
func dice(seed uint64) func(n int) int {
	x := seed
	return func(n int) int {
		x = x*6364136223846793005 + 1442695040888963407
		return int(x >> 33 % uint64(n))
	}
}

// P4.1 and P4.2: long walks over devices of several sizes, through one crash behind the other.
func TestReference(t *testing.T) {
	for seed, n := range []int{1, 2, 3, 8, 17, 64, 300} {
		roll := dice(uint64(seed))
		d, r := dev.New(n), newRef(n)
		for range 600 {
			switch k := roll(20); {
			case k < 15:
				i := roll(n+2) - 1
				b := bytes.Repeat([]byte{byte(roll(256))}, roll(67))
				if got, want := d.Write(i, b), r.write(i, string(b)); got != want {
					t.Fatalf("P4.1: Write(%d) of %d bytes: %v, want %v", i, len(b), got, want)
				}
			case k < 18:
				flush(t, d)
				r.flush()
			default:
				keep := make([]bool, roll(n+3))
				for j := range keep {
					keep[j] = roll(2) == 1
				}
				c, s := d.Crash(keep...), r.crash(keep)
				check(t, "P4.2: the crashed one", c, s.now(), s.loose(), s.calls)
				if k == 19 {
					d, r = c, s
				}
			}
			check(t, "P4.1: the walk", d, r.now(), r.loose(), r.calls)
			if t.Failed() {
				t.Fatalf("P4.1: in the walk over %d sectors", n)
			}
		}
	}
}
