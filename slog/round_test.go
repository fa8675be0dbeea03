package slog

import (
	"slices"
	"strings"
	"testing"

	"icehouse/api"
	"icehouse/dev"
	"icehouse/frame"
	"icehouse/num"
)

func opened(t *testing.T, d *dev.Dev) *Log {
	t.Helper()
	l, err := Open(d, 0, minSegs)
	if err != api.OK {
		t.Fatalf("P6.1: Open: %v", err)
	}
	return l
}

func bodiesOf(l *Log) []string {
	var out []string
	for _, r := range l.All() {
		out = append(out, string(r.Body))
	}
	return out
}

// put lays a sector that is whole, whatever it says.
func put(t *testing.T, d *dev.Dev, i int, n int64, text string) {
	t.Helper()
	sector, err := frame.Make(kind, n, text)
	if err != api.OK {
		t.Fatalf("the sector %d, number %d: %v", i, n, err)
	}
	if err := d.Write(i, sector); err != api.OK {
		t.Fatalf("P4.1: Write(%d): %v", i, err)
	}
}

// P6.3: a crash as the next segment begins, ahead of its flush, loses at most the eldest segment and what was not flushed.
func TestCrashInBegin(t *testing.T) {
	for round := range 7 {
		d := dev.New(24)
		l := opened(t, d)
		for k := range 4 * (round + 1) {
			l.Append([]byte(strings.Repeat(string([]byte{byte('a' + k)}), 100)))
			if k%4 == 1 {
				l.Flush()
			}
		}
		all, next := l.All(), l.Next()
		eldest := slices.IndexFunc(l.kept, func(s segment) bool { return s.slot == l.slot })
		if err := l.lay(segment{slot: l.slot, first: l.next}, 0, ""); err != api.OK {
			t.Fatalf("P6.1: %v", err)
		}
		loose := d.Loose()
		head := slices.Index(loose, l.place(l.slot, 0))
		for choice := range 1 << len(loose) {
			keep := make([]bool, len(loose))
			for i := range keep {
				keep[i] = choice>>i&1 != 0
			}
			c := opened(t, d.Crash(keep...))
			got := c.All()
			from := 0
			if keep[head] && eldest >= 0 {
				from = l.kept[eldest].count()
			}
			if len(got) > len(all)-from || len(got) < len(all)-from-2 || c.Next() < next {
				t.Fatalf("P6.3: round %d, %v stay: %d records of %d, Next %d", round, keep, len(got), len(all), c.Next())
			}
			for i, r := range got {
				if r.Pos != all[from+i].Pos || string(r.Body) != string(all[from+i].Body) {
					t.Fatalf("P6.3: round %d, %v stay: %d is told as %q", round, keep, r.Pos, r.Body)
				}
			}
			if pos, err := c.Append([]byte("more")); err != api.OK || pos < next {
				t.Fatalf("P6.1: Append behind it: %d, %v", pos, err)
			}
			if b, err := opened(t, c.d).Read(c.next - 1); string(b) != "more" || err != api.OK {
				t.Fatalf("P6.3: Read behind it: %q, %v", b, err)
			}
		}
	}
}

// P0.1: sectors that are whole, but that no log laid so, count for nothing.
func TestForged(t *testing.T) {
	a := num.PutText(nil, "a")
	for what, lay := range map[string]func(d *dev.Dev){
		"the position 0":         func(d *dev.Dev) { put(t, d, 0, 0, string(a)) },
		"a number below 0":       func(d *dev.Dev) { put(t, d, 0, -8, string(a)) },
		"a number that is huge":  func(d *dev.Dev) { put(t, d, 0, numbers, string(a)) },
		"the greatest number":    func(d *dev.Dev) { put(t, d, 0, 1<<63-8, string(a)) },
		"the lowest number":      func(d *dev.Dev) { put(t, d, 0, -1<<63, string(a)) },
		"another sector's":       func(d *dev.Dev) { put(t, d, 0, 9, string(a)) },
		"a text that is longer":  func(d *dev.Dev) { put(t, d, 0, 8, string(num.PutText(nil, strings.Repeat("a", room)))) },
		"a head in wrong places": func(d *dev.Dev) { put(t, d, 4, 8, string(a)); put(t, d, 23, 16, string(a)) },
	} {
		d := dev.New(24)
		lay(d)
		l := opened(t, d)
		if l.First() != 1 || l.Next() != 1 || len(l.All()) != 0 {
			t.Errorf("P6.1: %s: First %d, Next %d, %q", what, l.First(), l.Next(), bodiesOf(l))
		}
	}
}

// P0.1: in a stream that is whole only what may be a record is one, and nothing behind what is none.
func TestForgedStream(t *testing.T) {
	a := num.PutText(nil, "a")
	for what, stream := range map[string][]byte{
		"nothing":                   nil,
		"an empty body":             num.PutText(nil, "", "a"),
		"a length below 0":          num.Put(nil, -1),
		"a length that is huge":     num.Put(nil, 1<<62),
		"a length beyond its end":   num.Put(nil, 300),
		"a length that is longer":   {0x82, 0x00, 'a'},
		"a length that never ends":  []byte(strings.Repeat("\x80", room-len(a))),
		"a body that is cut":        num.Put(nil, room),
		"a length above the bounds": num.Put(nil, maxBody+1),
	} {
		d := dev.New(24)
		put(t, d, 0, 8*7, string(slices.Concat(a, stream)))
		l := opened(t, d)
		if got := bodiesOf(l); !slices.Equal(got, []string{"a"}) || l.First() != 7 || l.Next() <= 7 {
			t.Errorf("P6.3: %s: First %d, Next %d, %q", what, l.First(), l.Next(), got)
		}
	}
	long := string(num.PutText(nil, strings.Repeat("b", maxBody+1)))
	d := dev.New(24)
	for k := range (len(long) + room - 1) / room {
		put(t, d, k, int64(8*7+k), long[k*room:min(len(long), (k+1)*room)])
	}
	if l := opened(t, d); len(l.All()) != 0 {
		t.Errorf("P6.1: a body of %d bytes is told", maxBody+1)
	}
}

// P0.1 and P6.1: positions that are told rise, also if segments say that they have the same ones, or if there is a hole among them.
func TestForgedRound(t *testing.T) {
	text := func(bodies ...string) string { return string(num.PutText(nil, bodies...)) }
	for _, c := range []struct {
		what   string
		firsts [minSegs]int64
		want   string
	}{
		{"in order", [minSegs]int64{1, 3, 5}, "a0 b0 a1 b1 a2 b2"},
		{"gone round", [minSegs]int64{7, 3, 5}, "a1 b1 a2 b2 a0 b0"},
		{"with positions left out", [minSegs]int64{10, 20, 30}, "a0 b0 a1 b1 a2 b2"},
		{"the same positions", [minSegs]int64{5, 5, 5}, "a0 b0"},
		{"some positions twice", [minSegs]int64{1, 2, 5}, "a1 b1 a2 b2"},
		{"the wrong way", [minSegs]int64{5, 3, 1}, "a2 b2 a0 b0"},
		{"a hole", [minSegs]int64{1, 0, 5}, "a2 b2"},
		{"the first round", [minSegs]int64{1, 3, 0}, "a0 b0 a1 b1"},
	} {
		d := dev.New(24)
		for slot, first := range c.firsts {
			if first > 0 {
				k := string([]byte{byte('0' + slot)})
				put(t, d, slot*api.SegLen, first*api.SegLen, text("a"+k, "b"+k))
			}
		}
		l := opened(t, d)
		if got := strings.Join(bodiesOf(l), " "); got != c.want || l.Next() <= slices.Max(c.firsts[:])+1 {
			t.Errorf("P6.1: %s: %q, Next %d, want %q", c.what, got, l.Next(), c.want)
		}
		last := int64(0)
		for _, r := range l.All() {
			if r.Pos <= last {
				t.Errorf("P6.1: %s: %d behind %d", c.what, r.Pos, last)
			}
			last = r.Pos
		}
	}
}

// P6.1: Next leaves out no more than what the latest segment had room for, and a crash may have lost.
func TestLeftOut(t *testing.T) {
	for _, c := range []struct{ size, n, want int }{{1, 0, 1}, {1, 1, 213}, {1, 212, 213}, {1, 213, 425}, {300, 1, 213}, {300, 2, 214}, {40, 11, 223}} {
		l := opened(t, dev.New(24))
		for range c.n {
			l.Append(make([]byte, c.size))
		}
		if got := opened(t, l.d.Crash()).Next(); got != int64(c.want) {
			t.Errorf("P6.1: behind %d records of %d bytes Next is %d, want %d", c.n, c.size, got, c.want)
		}
	}
}

// hundreds appends n records of 100 bytes, all the same letter, and makes them last.
func hundreds(t *testing.T, l *Log, n int, letter string) {
	t.Helper()
	for range n {
		if _, err := l.Append([]byte(strings.Repeat(letter, 100))); err != api.OK {
			t.Fatalf("P6.1: Append: %v", err)
		}
	}
	if err := l.Flush(); err != api.OK {
		t.Fatalf("P6.1: Flush: %v", err)
	}
}

// P0.1 and P6.3: sectors whose segment has lost its head are told by nobody, and are never taken for a later segment's, whatever stays of that.
func TestOrphans(t *testing.T) {
	d := dev.New(24)
	hundreds(t, opened(t, d), 2, "a")
	l := opened(t, d)
	hundreds(t, l, 4, "b")
	top := l.Next()
	d.Write(l.place(1, 0), make([]byte, api.Sector))
	d.Flush()
	l = opened(t, d)
	if len(l.All()) != 2 || l.First() != 1 || l.Next() < top {
		t.Fatalf("P6.1: First %d, Next %d, %q; %d was told", l.First(), l.Next(), bodiesOf(l), top)
	}
	l.Append([]byte(strings.Repeat("c", 100)))
	l.Append([]byte(strings.Repeat("c", 100)))
	loose := len(d.Loose())
	for choice := range 1 << loose {
		keep := make([]bool, loose)
		for i := range keep {
			keep[i] = choice>>i&1 != 0
		}
		for i, body := range bodiesOf(opened(t, d.Crash(keep...))) {
			want := "a"
			if i >= 2 {
				want = "c"
			}
			if body != strings.Repeat(want, 100) {
				t.Fatalf("P6.3: %v stay: the record %d is told as %q", keep, i, body)
			}
		}
	}
	if got := bodiesOf(l); len(got) != 4 {
		t.Errorf("P6.1: %q", got)
	}
}

// P0.6: a full sector has room for the greatest number, and for no greater one.
func TestRoom(t *testing.T) {
	full := strings.Repeat("\xff", room)
	b, err := frame.Make(kind, numbers-1, full)
	if n, text, whole := frame.Parse(kind, b); err != api.OK || n != numbers-1 || text != full || whole != api.OK {
		t.Errorf("the greatest number: %v, %d, %v", err, n, whole)
	}
	if _, err := frame.Make(kind, numbers, full); err != api.ErrForm {
		t.Errorf("the number beyond: %v, want ErrForm", err)
	}
}
