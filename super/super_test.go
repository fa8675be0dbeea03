package super_test

import (
	"bytes"
	"math"
	"slices"
	"strings"
	"testing"

	"icehouse/api"
	"icehouse/dev"
	"icehouse/super"
)

var (
	longest = strings.Repeat("L", 40)
	// texts are of all kinds of lengths and bytes, also ones that end in 0 as the room behind them does, and the same one twice.
	texts = []string{"one", "", longest, "\x00", "\x00\x00\x00", "é雪", strings.Repeat("\xff", 40), strings.Repeat("\x00", 40), "one", "one", strings.Repeat("x", 39)}
)

// contents reads all sectors.
func contents(t *testing.T, d *dev.Dev) []string {
	t.Helper()
	var out []string
	for i := range d.Len() {
		b, err := d.Read(i)
		if err != api.OK {
			t.Fatalf("P4.1: Read(%d): %v", i, err)
		}
		out = append(out, string(b))
	}
	return out
}

// filled is a device whose sectors are all full of c, and last.
func filled(t *testing.T, n int, c byte) *dev.Dev {
	t.Helper()
	d := dev.New(n)
	for i := range n {
		write(t, d, i, strings.Repeat(string([]byte{c}), 64))
	}
	flush(t, d)
	return d.Crash()
}

func flush(t *testing.T, d *dev.Dev) {
	t.Helper()
	if err := d.Flush(); err != api.OK {
		t.Fatalf("P4.1: Flush: %v", err)
	}
}

func write(t *testing.T, d *dev.Dev, i int, b string) {
	t.Helper()
	if err := d.Write(i, []byte(b)); err != api.OK {
		t.Fatalf("P4.1: Write(%d): %v", i, err)
	}
}

func made(t *testing.T, d *dev.Dev, at int, text string) *super.Super {
	t.Helper()
	s, err := super.Make(d, at, []byte(text))
	if err != api.OK {
		t.Fatalf("P5.1: Make(%d, %q) of %d sectors: %v", at, text, d.Len(), err)
	}
	return s
}

func opened(t *testing.T, d *dev.Dev, at int) *super.Super {
	t.Helper()
	s, err := super.Open(d, at)
	if err != api.OK {
		t.Fatalf("P5.1: Open(%d) of %d sectors: %v", at, d.Len(), err)
	}
	return s
}

func save(t *testing.T, s *super.Super, text string) {
	t.Helper()
	if err := s.Save([]byte(text)); err != api.OK {
		t.Fatalf("P5.1: Save(%q) behind turn %d: %v", text, s.Turn(), err)
	}
}

func check(t *testing.T, what string, s *super.Super, text string, turn int64) {
	t.Helper()
	if got := string(s.Text()); got != text || s.Turn() != turn {
		t.Errorf("P5.1: %s: %q, turn %d, want %q, turn %d", what, got, s.Turn(), text, turn)
	}
}

// refused says that Open finds neither sector whole.
func refused(t *testing.T, what string, d *dev.Dev, at int) {
	t.Helper()
	if s, err := super.Open(d, at); s != nil || err != api.ErrCorrupt {
		t.Errorf("P5.1: %s: %v, want ErrCorrupt", what, err)
	}
}

// changes are the numbers of the sectors that are not the same.
func changes(a, b []string) []int {
	var out []int
	for i := range a {
		if a[i] != b[i] {
			out = append(out, i)
		}
	}
	return out
}

// P5.1: texts of all lengths, anywhere on a device, its ends too; turn 1; two writes, a flush, a write, a flush.
func TestMake(t *testing.T) {
	for _, c := range []struct{ n, at int }{{2, 0}, {3, 0}, {3, 1}, {7, 5}, {9, 4}, {2048, 2046}} {
		for size := range 41 {
			text := strings.Repeat("\xa5", size)
			d := filled(t, c.n, 0xee)
			s := made(t, d, c.at, text)
			check(t, "Make", s, text, 1)
			if d.Calls() != 5 || len(d.Loose()) != 0 {
				t.Errorf("P5.1: Make: %d calls, %v is loose", d.Calls(), d.Loose())
			}
			check(t, "Open behind Make", opened(t, d, c.at), text, 1)
			check(t, "Open behind Make and a crash", opened(t, d.Crash(), c.at), text, 1)
			want := slices.Repeat([]string{strings.Repeat("\xee", 64)}, c.n)
			got := contents(t, d)
			want[c.at], want[c.at+1] = got[c.at], strings.Repeat("\x00", 64)
			if !slices.Equal(got, want) {
				t.Errorf("P5.1: Make(%d) of %d sectors: sectors beside it were written, or the second one is not 0", c.at, c.n)
			}
		}
	}
}

// P5.1: whatever was there ahead of Make is gone, a text of a greater turn too.
func TestMakeAnew(t *testing.T) {
	for saves := range 6 {
		d := dev.New(4)
		s := made(t, d, 1, "elder")
		for range saves {
			save(t, s, longest)
		}
		check(t, "Make again", made(t, d, 1, "new"), "new", 1)
		check(t, "Open behind Make again", opened(t, d.Crash(), 1), "new", 1)
		write(t, d, 1, "spoilt")
		refused(t, "the elder text behind Make again", d, 1)
	}
	d := filled(t, 2, 0xff)
	write(t, d, 0, "loose")
	check(t, "Make over what is loose", made(t, d, 0, ""), "", 1)
	check(t, "Open behind Make over what is loose", opened(t, d.Crash(true, true), 0), "", 1)
}

// P5.1: ErrRange if one of the two is not there, ahead of ErrForm and ErrCorrupt; what is refused changes nothing.
func TestRefused(t *testing.T) {
	tooLong := longest + "x"
	for _, n := range []int{1, 2, 3, 8, 2048} {
		d := filled(t, n, 0xee)
		before := contents(t, d)
		for _, at := range []int{-1, -2, n - 1, n, n + 1, 2048, 1 << 32, 1 << 40, math.MinInt64, math.MaxInt64 - 1, math.MaxInt64} {
			for _, text := range []string{"", "a", longest, tooLong} {
				if s, err := super.Make(d, at, []byte(text)); s != nil || err != api.ErrRange {
					t.Errorf("P5.1: Make(%d) of %d sectors, %d bytes: %v, want ErrRange", at, n, len(text), err)
				}
			}
			if s, err := super.Open(d, at); s != nil || err != api.ErrRange {
				t.Errorf("P5.1: Open(%d) of %d sectors: %v, want ErrRange", at, n, err)
			}
		}
		for at := range n - 1 {
			for _, size := range []int{41, 64, 65, 1 << 16} {
				if s, err := super.Make(d, at, make([]byte, size)); s != nil || err != api.ErrForm {
					t.Errorf("P5.1: Make(%d) of %d sectors, %d bytes: %v, want ErrForm", at, n, size, err)
				}
			}
		}
		if d.Calls() != 0 || len(d.Loose()) != 0 || !slices.Equal(contents(t, d), before) {
			t.Errorf("P5.1: what was refused wrote: %d calls, %v is loose", d.Calls(), d.Loose())
		}
	}
}

// P5.1: what is no super's is not whole, alone or beside another that is not.
func TestCorrupt(t *testing.T) {
	refused(t, "sectors that are 0", dev.New(2), 0)
	for c := range 256 {
		d := filled(t, 3, byte(c))
		refused(t, "sectors full of one byte", d, 1)
		write(t, d, 1, "text")
		refused(t, "a text alone", d, 1)
		if d.Calls() != 1 {
			t.Errorf("P5.1: Open wrote: %d calls", d.Calls()-1)
		}
	}
}

// P5.1: a long run; each Save is one more turn, one write into the sector that has not the latest text, and a flush.
func TestSave(t *testing.T) {
	const at = 2
	d := filled(t, 6, 0xee)
	s := made(t, d, at, "first")
	latest := at
	for k := range 9000 {
		text := texts[k%len(texts)]
		before, calls := contents(t, d), d.Calls()
		if err := s.Save([]byte(text)); err != api.OK || d.Calls() != calls+2 || len(d.Loose()) != 0 {
			t.Fatalf("P5.1: Save %d: %v, %d calls, %v is loose", k, err, d.Calls()-calls, d.Loose())
		}
		latest = 2*at + 1 - latest
		if got := changes(before, contents(t, d)); !slices.Equal(got, []int{latest}) {
			t.Fatalf("P5.1: Save %d wrote into %v, want %d", k, got, latest)
		}
		check(t, "Save", s, text, int64(k+2))
		check(t, "Open", opened(t, d, at), text, int64(k+2))
		if t.Failed() {
			t.Fatalf("P5.1: in Save %d", k)
		}
	}
}

// P5.1: a text that is too long changes nothing, on the device and in what is told.
func TestSaveRefused(t *testing.T) {
	d := dev.New(2)
	s := made(t, d, 0, "one")
	save(t, s, "two")
	before, calls := contents(t, d), d.Calls()
	for _, size := range []int{41, 42, 63, 64, 65, 1 << 17} {
		if err := s.Save(bytes.Repeat([]byte{'x'}, size)); err != api.ErrForm {
			t.Errorf("P5.1: Save of %d bytes: %v, want ErrForm", size, err)
		}
	}
	if d.Calls() != calls || len(d.Loose()) != 0 || !slices.Equal(contents(t, d), before) {
		t.Error("P5.1: what was refused wrote")
	}
	check(t, "behind what was refused", s, "two", 2)
	save(t, s, "three")
	check(t, "the next one", s, "three", 3)
	check(t, "Open of the next one", opened(t, d.Crash(), 0), "three", 3)
}

// P5.1: a crash within a Save finds the text ahead of it or its own one, whatever stays of it and of others' sectors.
func TestCrashInSave(t *testing.T) {
	const at = 1
	d := dev.New(5)
	s := made(t, d, at, "first")
	was := "first"
	for k := range 40 {
		text := texts[k%len(texts)]
		before := d.Crash()
		save(t, s, text)
		after := contents(t, d)
		for choice := range 8 {
			c := before.Crash()
			write(t, c, 0, "other")
			for _, i := range changes(contents(t, before), after) {
				write(t, c, i, after[i])
			}
			write(t, c, 4, "other")
			crashed := c.Crash(choice&1 != 0, choice&2 != 0, choice&4 != 0)
			y := opened(t, crashed, at)
			want, turn := was, int64(k+1)
			if choice&2 != 0 {
				want, turn = text, turn+1
			}
			check(t, "a crash in Save", y, want, turn)
			save(t, y, "behind")
			check(t, "Save behind a crash", opened(t, crashed.Crash(), at), "behind", turn+1)
		}
		was = text
	}
}

// P5.1: a crash within the first Make finds nothing, or its text; never another.
func TestCrashInMake(t *testing.T) {
	for choice := range 4 {
		c := filled(t, 2, 0xee)
		write(t, c, 0, strings.Repeat("\x00", 64))
		write(t, c, 1, strings.Repeat("\x00", 64))
		refused(t, "a crash as both are made anew", c.Crash(choice&1 != 0, choice&2 != 0), 0)
	}
	d := dev.New(2)
	made(t, d, 0, "text")
	c := dev.New(2)
	write(t, c, 0, contents(t, d)[0])
	refused(t, "a crash ahead of the flush", c.Crash(), 0)
	check(t, "a crash ahead of the flush, and it stays", opened(t, c.Crash(true), 0), "text", 1)
}

// P5.1: each byte, changed to each other one, is told: the elder text is found; where it is spoilt too, none.
func TestSpoiltByte(t *testing.T) {
	for _, saves := range []int{1, 2, 3, 70} {
		d := dev.New(2)
		s := made(t, d, 0, "first")
		was := ""
		for k := range saves {
			was = string(s.Text())
			save(t, s, texts[k%len(texts)])
		}
		latest := saves % 2
		spoil(t, d, latest, func(c *dev.Dev) {
			check(t, "the latest one is spoilt", opened(t, c, 0), was, int64(saves))
			write(t, c, 1-latest, "spoilt too")
			refused(t, "both are spoilt", c, 0)
		})
		spoil(t, d, 1-latest, func(c *dev.Dev) {
			check(t, "the elder one is spoilt", opened(t, c, 0), string(s.Text()), s.Turn())
		})
	}
	for _, text := range texts {
		d := dev.New(2)
		made(t, d, 0, text)
		spoil(t, d, 0, func(c *dev.Dev) { refused(t, "the only one is spoilt", c, 0) })
		spoil(t, d, 1, func(c *dev.Dev) { check(t, "the one that is 0 is spoilt", opened(t, c, 0), text, 1) })
	}
	spoil(t, dev.New(2), 0, func(c *dev.Dev) { refused(t, "a byte among those that are 0", c, 0) })
}

// spoil calls see with the device for each change of one byte of the sector i.
func spoil(t *testing.T, d *dev.Dev, i int, see func(c *dev.Dev)) {
	t.Helper()
	sector := contents(t, d)[i]
	for at := range sector {
		for by := 1; by < 256; by++ {
			c := d.Crash()
			b := []byte(sector)
			b[at] ^= byte(by)
			write(t, c, i, string(b))
			see(c)
			if t.Failed() {
				t.Fatalf("P5.1: sector %d, byte %d, by %#x", i, at, by)
			}
		}
	}
}

// P5.1: behind a spoilt sector Save goes on from what Open found, and never into the sector that has it.
func TestSaveBehindSpoilt(t *testing.T) {
	for saves := range 5 {
		for spoilt := range 2 {
			d := dev.New(2)
			s := made(t, d, 0, "0")
			for k := range saves {
				save(t, s, string([]byte{byte('1' + k)}))
			}
			write(t, d, spoilt, "spoilt")
			if saves == 0 && spoilt == 0 {
				refused(t, "the only one is spoilt", d, 0)
				continue
			}
			y := opened(t, d, 0)
			found := int64(saves + 1)
			if saves%2 == spoilt {
				found--
			}
			check(t, "Open of the one that is left", y, string([]byte{byte('0' + found - 1)}), found)
			before := contents(t, d)
			save(t, y, "behind")
			slot := 1 - int(found-1)%2
			if got := changes(before, contents(t, d)); !slices.Equal(got, []int{slot}) {
				t.Errorf("P5.1: Save behind Open of turn %d wrote into %v, want %d", found, got, slot)
			}
			check(t, "Open behind it", opened(t, d.Crash(), 0), "behind", found+1)
		}
	}
}

// P5.1: two of them on one device do not touch each other.
func TestNeighbours(t *testing.T) {
	d := dev.New(4)
	a, b := made(t, d, 0, "a"), made(t, d, 2, "b")
	for k, text := range texts {
		save(t, a, text)
		if k%2 == 0 {
			save(t, b, texts[len(texts)-1-k])
		}
	}
	c := d.Crash()
	check(t, "the first", opened(t, c, 0), string(a.Text()), a.Turn())
	check(t, "the second", opened(t, c, 2), string(b.Text()), b.Turn())
	check(t, "the first, itself", a, texts[len(texts)-1], int64(len(texts)+1))
	check(t, "the second, itself", b, texts[0], int64(len(texts)/2+2))
}

// P5.1: a nil Super is down, whatever it is told, and tells nothing.
func TestNil(t *testing.T) {
	var none *super.Super
	for _, size := range []int{0, 1, 40, 41, 1000} {
		if err := none.Save(make([]byte, size)); err != api.ErrDown {
			t.Errorf("P5.1: Save of %d bytes, of nil: %v, want ErrDown", size, err)
		}
	}
	if len(none.Text()) != 0 || none.Turn() != 0 {
		t.Errorf("P5.1: nil tells %q, %d", none.Text(), none.Turn())
	}
}

// P0.1: no device, and a Super that Make did not make, panic at nothing.
func TestNoDevice(t *testing.T) {
	for _, d := range []*dev.Dev{nil, new(dev.Dev)} {
		for _, at := range []int{math.MinInt64, -2, -1, 0, 1, math.MaxInt64} {
			if s, err := super.Make(d, at, []byte("a")); s != nil || err != api.ErrRange {
				t.Errorf("P5.1: Make(%d) of no sectors: %v, want ErrRange", at, err)
			}
			if s, err := super.Open(d, at); s != nil || err != api.ErrRange {
				t.Errorf("P5.1: Open(%d) of no sectors: %v, want ErrRange", at, err)
			}
		}
	}
	zero := new(super.Super)
	if err := zero.Save([]byte("a")); err != api.ErrDown {
		t.Errorf("P0.1: Save of the zero Super: %v", err)
	}
	check(t, "the zero Super", zero, "", 0)
}

// P0.3 and P0.4: what is handed in stays, its spare room too, and is not kept; what is answered is new memory, its spare room too.
func TestMemory(t *testing.T) {
	d := dev.New(2)
	room := []byte("abcdefgh")
	s, err := super.Make(d, 0, room[:3])
	if err != api.OK || string(room) != "abcdefgh" {
		t.Errorf("P0.3: Make: %v, %q", err, room)
	}
	clear(room)
	check(t, "Make kept what it was given", s, "abc", 1)
	room = []byte("ABCDEFGH")
	if err := s.Save(room[:4]); err != api.OK || string(room) != "ABCDEFGH" {
		t.Errorf("P0.3: Save: %v, %q", err, room)
	}
	clear(room)
	check(t, "Save kept what it was given", s, "ABCD", 2)
	y := opened(t, d, 0)
	for _, x := range []*super.Super{s, y} {
		one, two := x.Text(), x.Text()
		one = one[:cap(one)]
		for i := range one {
			one[i] = 'z'
		}
		if string(two) != "ABCD" {
			t.Errorf("P0.3: two answers of Text share memory: %q", two)
		}
		check(t, "behind all of them", x, "ABCD", 2)
	}
	check(t, "Open behind all of them", opened(t, d.Crash(), 0), "ABCD", 2)
	if z, err := super.Make(d, 0, nil); err != api.OK || len(z.Text()) != 0 || z.Save(nil) != api.OK {
		t.Errorf("P0.4: nil texts: %v", err)
	}
	check(t, "a nil text", opened(t, d.Crash(), 0), "", 2)
}

// P0.5: what a Super tells hangs on what it was told, not on what befalls the device behind it.
func TestTellsWhatItWasTold(t *testing.T) {
	d := dev.New(2)
	s := made(t, d, 0, "one")
	save(t, s, "two")
	write(t, d, 1, "spoilt")
	check(t, "the sector was spoilt", s, "two", 2)
	save(t, s, "three")
	check(t, "Open behind it", opened(t, d.Crash(), 0), "three", 3)
}

// slot is what one of the two sectors is known to have; turn 0: it is not whole.
type slot struct {
	turn int64
	text string
}

// walk is a Super beside what its two sectors are known to have.
type walk struct {
	d     *dev.Dev
	s     *super.Super
	known [2]slot
}

const walkAt = 3

// latest is the number of the slot that Open is to find.
func (w *walk) latest() int {
	if w.known[1].turn > w.known[0].turn {
		return 1
	}
	return 0
}

func (w *walk) make(t *testing.T, text string) {
	t.Helper()
	w.s = made(t, w.d, walkAt, text)
	w.known = [2]slot{{1, text}, {}}
}

func (w *walk) save(t *testing.T, text string) {
	t.Helper()
	save(t, w.s, text)
	i := w.latest()
	w.known[1-i] = slot{w.known[i].turn + 1, text}
}

// spoil changes a byte of a slot that is whole: a second change of one that is not might put it right.
func (w *walk) spoil(t *testing.T, i, at int, by byte) {
	t.Helper()
	if w.known[i].turn == 0 {
		return
	}
	b := []byte(contents(t, w.d)[walkAt+i])
	b[at] ^= by
	write(t, w.d, walkAt+i, string(b))
	flush(t, w.d)
	w.known[i] = slot{}
	if w.known[1-i].turn == 0 {
		refused(t, "the walk: both are spoilt", w.d, walkAt)
		w.make(t, "behind both")
		return
	}
	w.s = opened(t, w.d, walkAt)
}

// dice answers the same numbers each time: each below its n.
func dice(seed uint64) func(n int) int {
	x := seed
	return func(n int) int {
		x = x*6364136223846793005 + 1442695040888963407
		return int(x >> 33 % uint64(n))
	}
}

// P5.1: long walks of Save, crash, spoilt sectors and Make, against what each sector is known to have.
func TestReference(t *testing.T) {
	for seed := range 20 {
		roll := dice(uint64(seed))
		w := &walk{d: dev.New(8)}
		w.make(t, "first")
		for step := range 400 {
			switch k := roll(24); {
			case k < 16:
				w.save(t, strings.Repeat(string([]byte{byte(roll(256))}), roll(41)))
			case k < 20:
				// Sectors beside it may be loose, and stay or not.
				write(t, w.d, roll(walkAt), "other")
				write(t, w.d, walkAt+2+roll(3), "other")
				w.d = w.d.Crash(roll(2) == 1, roll(2) == 1)
				w.s = opened(t, w.d, walkAt)
			case k < 23:
				w.spoil(t, roll(2), roll(64), byte(1+roll(255)))
			default:
				w.make(t, "again")
			}
			want := w.known[w.latest()]
			check(t, "the walk", w.s, want.text, want.turn)
			if t.Failed() {
				t.Fatalf("P5.1: seed %d, step %d", seed, step)
			}
		}
	}
}
