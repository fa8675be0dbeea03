package meta_test

import (
	"bytes"
	"math"
	"math/rand/v2"
	"slices"
	"testing"

	"icehouse/api"
	"icehouse/dev"
	"icehouse/meta"
	"icehouse/num"
	"icehouse/super"
)

const edge = 1 << 40

// numbers are those about the limits, and those about a change of length.
func numbers() []int64 {
	return []int64{
		0, 1, 2, 63, 64, 8191, 8192, edge - 2, edge - 1, edge, edge + 1, 2 * edge, 1<<32 + 1,
		-1, -2, -64, -edge, math.MaxInt64, math.MaxInt64 - 1, math.MinInt64, math.MinInt64 + 1,
	}
}

// refMay is written from the chapter: one sentence a line.
func refMay(m api.Meta) bool {
	least, most := min(m.Boot, m.Epoch, m.Ready), max(m.Boot, m.Epoch, m.Ready)
	inLimits := least >= 0 && most <= edge
	readyGoes := m.Ready == 0 || m.Ready > m.Epoch
	frozenGoes := !m.Frozen || m.Ready != 0
	return inLimits && readyGoes && frozenGoes
}

// grid are all Metas of those numbers, which may be and which may not.
func grid(ns []int64) []api.Meta {
	var out []api.Meta
	for _, boot := range ns {
		for _, epoch := range ns {
			for _, ready := range ns {
				out = append(out, api.Meta{Boot: boot, Epoch: epoch, Ready: ready}, api.Meta{Boot: boot, Epoch: epoch, Ready: ready, Frozen: true})
			}
		}
	}
	return out
}

// text is how a Meta lies in the slots.
func text(m api.Meta) []byte {
	var frozen int64
	if m.Frozen {
		frozen = 1
	}
	return num.Put(nil, m.Boot, m.Epoch, m.Ready, frozen)
}

// filled is a device whose sectors are all full of c, and last.
func filled(n int, c byte) *dev.Dev {
	d := dev.New(n)
	for i := range n {
		d.Write(i, bytes.Repeat([]byte{c}, api.Sector))
	}
	d.Flush()
	return d.Crash()
}

func contents(d *dev.Dev) []string {
	var out []string
	for i := range d.Len() {
		b, _ := d.Read(i)
		out = append(out, string(b))
	}
	return out
}

// changes are the numbers of the sectors that are not the same.
func changes(a, b []string) []int {
	var out []int
	for i := range a {
		if a[i] != b[i] {
			out = append(out, i)
		}
	}
	return out
}

func made(t *testing.T, d *dev.Dev, at int) *meta.Keeper {
	t.Helper()
	k, err := meta.Make(d, at)
	if err != api.OK {
		t.Fatalf("P12.1: Make(%d) of %d sectors: %v", at, d.Len(), err)
	}
	check(t, "Make", k, api.Meta{})
	return k
}

func opened(t *testing.T, d *dev.Dev, at int) *meta.Keeper {
	t.Helper()
	calls, loose := d.Calls(), d.Loose()
	k, err := meta.Open(d, at)
	if err != api.OK {
		t.Fatalf("P12.1: Open(%d) of %d sectors: %v", at, d.Len(), err)
	}
	if d.Calls() != calls || !slices.Equal(d.Loose(), loose) {
		t.Fatalf("P12.1: Open(%d) wrote", at)
	}
	return k
}

func save(t *testing.T, k *meta.Keeper, m api.Meta) {
	t.Helper()
	was := k.Meta()
	if err := k.Save(m); err != api.OK {
		t.Fatalf("P12.1: Save(%v) behind %v: %v", m, was, err)
	}
	check(t, "Save", k, m)
}

func check(t *testing.T, what string, k *meta.Keeper, want api.Meta) {
	t.Helper()
	if got := k.Meta(); got != want {
		t.Errorf("P12.1: %s: %v, want %v", what, got, want)
	}
}

// corrupt says that Open finds no Meta.
func corrupt(t *testing.T, what string, d *dev.Dev, at int) {
	t.Helper()
	if k, err := meta.Open(d, at); k != nil || err != api.ErrCorrupt {
		t.Errorf("P12.1: %s: %v, want ErrCorrupt", what, err)
	}
}

// P12.1: May, by hand: each of its parts at its limit, and beyond it.
func TestMayKnown(t *testing.T) {
	for _, c := range []struct {
		m    api.Meta
		want bool
	}{
		{api.Meta{}, true},
		{api.Meta{Boot: 1}, true},
		{api.Meta{Boot: edge}, true},
		{api.Meta{Boot: edge + 1}, false},
		{api.Meta{Boot: -1}, false},
		{api.Meta{Epoch: edge}, true},
		{api.Meta{Epoch: edge + 1}, false},
		{api.Meta{Epoch: -1}, false},
		{api.Meta{Epoch: -1, Ready: 1}, false},
		{api.Meta{Ready: 1}, true},
		{api.Meta{Ready: edge}, true},
		{api.Meta{Ready: edge + 1}, false},
		{api.Meta{Ready: -1}, false},
		{api.Meta{Epoch: -2, Ready: -1}, false},
		{api.Meta{Epoch: 7, Ready: 8}, true},
		{api.Meta{Epoch: 7, Ready: 7}, false},
		{api.Meta{Epoch: 7, Ready: 6}, false},
		{api.Meta{Epoch: edge, Ready: edge}, false},
		{api.Meta{Epoch: edge, Ready: edge + 1}, false},
		{api.Meta{Epoch: edge - 1, Ready: edge}, true},
		{api.Meta{Frozen: true}, false},
		{api.Meta{Boot: 3, Epoch: 7, Frozen: true}, false},
		{api.Meta{Epoch: 7, Ready: 8, Frozen: true}, true},
		{api.Meta{Epoch: 7, Ready: 7, Frozen: true}, false},
		{api.Meta{Boot: edge, Epoch: edge - 1, Ready: edge, Frozen: true}, true},
		{api.Meta{Boot: 9, Epoch: 2, Ready: 3}, true},
	} {
		if got := meta.May(c.m); got != c.want {
			t.Errorf("P12.1: May(%v): %v", c.m, got)
		}
	}
}

// P12.1: May of all Metas of the numbers about the limits.
func TestMayReference(t *testing.T) {
	for _, m := range grid(numbers()) {
		if got, want := meta.May(m), refMay(m); got != want {
			t.Errorf("P12.1: May(%v): %v, want %v", m, got, want)
		}
	}
}

// P12.1: Make is a zero Meta, which lasts, anywhere on a device and whatever was there; only its two sectors are written.
func TestMake(t *testing.T) {
	for _, c := range []struct{ n, at int }{{2, 0}, {3, 0}, {3, 1}, {9, 4}, {1200, 0}, {2048, 2046}} {
		d := filled(c.n, 0xee)
		before := contents(d)
		k := made(t, d, c.at)
		if len(d.Loose()) != 0 {
			t.Errorf("P12.1: Make(%d) left %v loose", c.at, d.Loose())
		}
		for _, i := range changes(before, contents(d)) {
			if i != c.at && i != c.at+1 {
				t.Errorf("P12.1: Make(%d) wrote into the sector %d", c.at, i)
			}
		}
		check(t, "Open behind Make", opened(t, d, c.at), api.Meta{})
		check(t, "Open behind Make and a crash", opened(t, d.Crash(), c.at), api.Meta{})
		m := api.Meta{Boot: 1, Epoch: 2, Ready: 3, Frozen: true}
		save(t, k, m)
		check(t, "Open behind Save", opened(t, d.Crash(), c.at), m)
	}
}

// P12.1: Make forgets what was kept there: the numbers begin again.
func TestMakeAgain(t *testing.T) {
	for saves := range int64(5) {
		d := dev.New(4)
		k := made(t, d, 1)
		for n := range saves {
			save(t, k, api.Meta{Boot: edge - 9 + n, Epoch: edge - 9, Ready: edge, Frozen: true})
		}
		k = made(t, d, 1)
		check(t, "Open behind Make again", opened(t, d.Crash(), 1), api.Meta{})
		save(t, k, api.Meta{Boot: 1})
		check(t, "Open behind Save", opened(t, d.Crash(), 1), api.Meta{Boot: 1})
	}
}

// P12.1: Make and Open have super's errors: no such sectors, of no device too; what is refused writes nothing.
func TestNoSectors(t *testing.T) {
	for _, d := range []*dev.Dev{nil, new(dev.Dev), dev.New(1), dev.New(2), filled(5, 0xff), dev.New(2048)} {
		before := contents(d)
		n := d.Len()
		for _, at := range []int{-1, -2, n - 1, n, n + 1, 4096, 1 << 32, math.MinInt, math.MinInt + 1, math.MaxInt - 1, math.MaxInt} {
			if k, err := meta.Make(d, at); k != nil || err != api.ErrRange {
				t.Errorf("P12.1: Make(%d) of %d sectors: %v, want ErrRange", at, n, err)
			}
			if k, err := meta.Open(d, at); k != nil || err != api.ErrRange {
				t.Errorf("P12.1: Open(%d) of %d sectors: %v, want ErrRange", at, n, err)
			}
		}
		if d.Calls() != 0 || !slices.Equal(contents(d), before) {
			t.Errorf("P12.1: what was refused wrote: %d calls", d.Calls())
		}
	}
}

// P12.1: ErrCorrupt: sectors that nothing was kept on.
func TestNothingKept(t *testing.T) {
	corrupt(t, "sectors that are 0", dev.New(2), 0)
	for c := range 256 {
		d := filled(3, byte(c))
		corrupt(t, "sectors full of one byte", d, 1)
		made(t, d, 0)
		corrupt(t, "beside a Keeper", d, 1)
	}
}

// P12.1: ErrCorrupt: whole slots of which Save never wrote the text.
func TestOtherTexts(t *testing.T) {
	one := text(api.Meta{Boot: 1, Epoch: 2, Ready: 3, Frozen: true})
	texts := [][]byte{
		nil, {0}, {0, 0, 0}, {0, 0, 0, 0, 0}, {0x80}, {0, 0, 0, 0x80}, {0, 0, 0, 4}, {0, 0, 2, 4}, {0, 0, 2, 1}, {0, 0, 0, 1},
		{0x80, 0, 0, 0, 0}, {0, 0, 0, 0x80, 0}, {0, 0, 2, 0x82, 0}, []byte("a text"), bytes.Repeat([]byte{0xff}, 40), make([]byte, 40),
		append(slices.Clone(one), 0), append(slices.Clone(one), one...), one[:3],
		num.Put(nil, 1, 2, 3, 2), num.Put(nil, 1, 2, 3, -1), num.Put(nil, 1, 2, 3, 256), num.Put(nil, 1, 2, 3, 257), num.Put(nil, 1, 2, 3, math.MinInt64),
		num.Put(nil, 1, 2, 3), num.Put(nil, 1, 2, 3, 1, 0),
	}
	for _, m := range grid(numbers()) {
		if !refMay(m) && len(text(m)) <= 40 {
			texts = append(texts, text(m))
		}
	}
	d := dev.New(2)
	for _, b := range texts {
		if _, err := super.Make(d, 0, b); err != api.OK {
			t.Fatalf("P5.1: Make(%x): %v", b, err)
		}
		if k, err := meta.Open(d, 0); k != nil || err != api.ErrCorrupt {
			t.Errorf("P12.1: Open of %x: %v, want ErrCorrupt", b, err)
		}
	}
}

// P12.1: each byte of the latest sector, changed to each other one, is told: what was saved ahead of it is found; where that is spoilt too, ErrCorrupt.
func TestSpoilt(t *testing.T) {
	was, last := api.Meta{Boot: 5, Epoch: 6, Ready: 9, Frozen: true}, api.Meta{Boot: 5, Epoch: 9}
	d := dev.New(2)
	k := made(t, d, 0)
	save(t, k, was)
	before := contents(d)
	save(t, k, last)
	latest := changes(before, contents(d))[0]
	sector := []byte(contents(d)[latest])
	for at := range sector {
		for by := 1; by < 256; by++ {
			c := d.Crash()
			b := slices.Clone(sector)
			b[at] ^= byte(by)
			c.Write(latest, b)
			check(t, "the latest one is spoilt", opened(t, c, 0), was)
			c.Write(1-latest, []byte("spoilt too"))
			corrupt(t, "both are spoilt", c, 0)
		}
	}
}

// P12.1: each Save's answer, of all that may be and all that may not, behind each of them; what is refused changes nothing.
func TestSave(t *testing.T) {
	all := grid([]int64{-1, 0, 1, 2, edge - 1, edge, edge + 1, math.MaxInt64, math.MinInt64})
	for _, was := range all {
		if !refMay(was) {
			continue
		}
		d := dev.New(2)
		if _, err := super.Make(d, 0, text(was)); err != api.OK {
			t.Fatalf("P5.1: Make: %v", err)
		}
		for _, m := range all {
			saveOne(t, d.Crash(), was, m)
		}
	}
}

// saveOne says so of a device that has was, as it is told m.
func saveOne(t *testing.T, d *dev.Dev, was, m api.Meta) {
	t.Helper()
	k := opened(t, d, 0)
	check(t, "Open", k, was)
	want, wantErr := m, api.OK
	if !refMay(m) || m.Boot < was.Boot || m.Epoch < was.Epoch {
		want, wantErr = was, api.ErrForm
	}
	if err := k.Save(m); err != wantErr {
		t.Errorf("P12.1: Save(%v) behind %v: %v, want %v", m, was, err, wantErr)
	}
	check(t, "behind Save", k, want)
	if wantErr == api.ErrForm && d.Calls() != 0 {
		t.Errorf("P12.1: Save(%v) behind %v was refused, but wrote", m, was)
	}
	check(t, "Open behind Save", opened(t, d, 0), want)
	check(t, "Open behind Save and a crash", opened(t, d.Crash(), 0), want)
}

// P12.1: Boot and Epoch, each alone: as it was may be saved, one less may not, whatever the other does; Ready and Frozen may go.
func TestSaveKnown(t *testing.T) {
	d := dev.New(2)
	k := made(t, d, 0)
	save(t, k, api.Meta{Boot: 5, Epoch: 7, Ready: 9, Frozen: true})
	for _, m := range []api.Meta{
		{Boot: 4, Epoch: 7, Ready: 9, Frozen: true}, {Boot: 5, Epoch: 6, Ready: 9, Frozen: true}, {}, {Boot: 4, Epoch: 6},
		{Boot: 4, Epoch: edge}, {Boot: edge, Epoch: 6}, {Boot: 5, Epoch: 9, Ready: 9, Frozen: true}, {Boot: 5, Epoch: 7, Frozen: true},
	} {
		if err := k.Save(m); err != api.ErrForm {
			t.Errorf("P12.1: Save(%v) behind %v: %v, want ErrForm", m, k.Meta(), err)
		}
	}
	for _, m := range []api.Meta{
		{Boot: 5, Epoch: 7, Ready: 9, Frozen: true}, {Boot: 5, Epoch: 7, Ready: 8, Frozen: true}, {Boot: 5, Epoch: 7, Ready: 8}, {Boot: 5, Epoch: 7},
		{Boot: 6, Epoch: 7}, {Boot: 6, Epoch: 8, Ready: edge}, {Boot: 6, Epoch: edge}, {Boot: edge, Epoch: edge}, {Boot: edge, Epoch: edge},
	} {
		save(t, k, m)
		check(t, "Open", opened(t, d.Crash(), 0), m)
	}
	for _, m := range []api.Meta{{Boot: edge - 1, Epoch: edge}, {Boot: edge, Epoch: edge - 1}, {Boot: edge + 1, Epoch: edge}} {
		if err := k.Save(m); err != api.ErrForm {
			t.Errorf("P12.1: Save(%v) behind %v: %v, want ErrForm", m, k.Meta(), err)
		}
	}
}

// drawn is a Meta that may be, or that may not, of numbers mostly a little above those of was.
func drawn(r *rand.Rand, was api.Meta) api.Meta {
	m := api.Meta{Boot: was.Boot + r.Int64N(4) - 1, Epoch: was.Epoch + r.Int64N(4) - 1, Frozen: r.IntN(3) == 0}
	if r.IntN(2) == 0 {
		m.Ready = m.Epoch + r.Int64N(5) - 1
	}
	if r.IntN(50) == 0 {
		all := numbers()
		m.Ready = all[r.IntN(len(all))]
	}
	return m
}

// P12.1: a long walk of Saves, Opens and crashes, two Keepers side by side on one device.
func TestWalk(t *testing.T) {
	r := rand.New(rand.NewPCG(12, 1))
	for _, begin := range []api.Meta{{}, {Boot: 60, Epoch: 8100}, {Boot: edge - 900, Epoch: edge - 700}} {
		d := dev.New(6)
		ks := []*meta.Keeper{made(t, d, 1), made(t, d, 3)}
		want := []api.Meta{begin, begin}
		save(t, ks[0], begin)
		save(t, ks[1], begin)
		for range 3000 {
			i := r.IntN(2)
			m := drawn(r, want[i])
			wantErr := api.ErrForm
			if refMay(m) && m.Boot >= want[i].Boot && m.Epoch >= want[i].Epoch {
				want[i], wantErr = m, api.OK
			}
			if err := ks[i].Save(m); err != wantErr {
				t.Fatalf("P12.1: Save(%v): %v, want %v", m, err, wantErr)
			}
			if r.IntN(3) == 0 {
				d = d.Crash(r.IntN(2) == 0, r.IntN(2) == 0)
				ks = []*meta.Keeper{opened(t, d, 1), opened(t, d, 3)}
			}
			check(t, "the first one", ks[0], want[0])
			check(t, "the second one", ks[1], want[1])
		}
	}
}

// P12.1: a crash within a Save finds what was saved ahead of it, or the one under way, whatever stays; and it goes on from what it finds.
func TestCrashInSave(t *testing.T) {
	d := dev.New(5)
	k := made(t, d, 1)
	for n := range int64(80) {
		was, m := k.Meta(), api.Meta{Boot: n / 2, Epoch: n, Ready: (n + 3) * (n % 2), Frozen: n%4 == 1}
		before := d.Crash()
		save(t, k, m)
		after := contents(d)
		for choice := range 8 {
			c := before.Crash()
			c.Write(0, []byte("other"))
			for _, i := range changes(contents(before), after) {
				c.Write(i, []byte(after[i]))
			}
			c.Write(4, []byte("other"))
			crashed := c.Crash(choice&1 != 0, choice&2 != 0, choice&4 != 0)
			y := opened(t, crashed, 1)
			found := y.Meta()
			if found != was && found != m {
				t.Fatalf("P12.1: a crash in Save(%v) behind %v finds %v", m, was, found)
			}
			if err := y.Save(api.Meta{Boot: found.Boot, Epoch: found.Epoch - 1}); err != api.ErrForm {
				t.Errorf("P12.1: Save of a lesser Epoch behind a crash: %v, want ErrForm", err)
			}
			save(t, y, api.Meta{Boot: found.Boot + 1, Epoch: found.Epoch})
			check(t, "Save behind a crash", opened(t, crashed.Crash(), 1), api.Meta{Boot: found.Boot + 1, Epoch: found.Epoch})
		}
	}
}

// P12.1: a nil Keeper is down, whatever it is told, and tells zero; one that neither Make nor Open made panics at nothing (P0.1).
func TestNil(t *testing.T) {
	for _, k := range []*meta.Keeper{nil, new(meta.Keeper)} {
		for _, m := range grid([]int64{-1, 0, 1, edge, edge + 1}) {
			if err := k.Save(m); err != api.ErrDown {
				t.Errorf("P12.1: Save(%v) of nil: %v, want ErrDown", m, err)
			}
		}
		check(t, "nil", k, api.Meta{})
	}
}

// P0.5: what a Keeper tells hangs on what it was told, not on another one's Saves or on what befalls the device behind it.
func TestTellsWhatItWasTold(t *testing.T) {
	d := dev.New(2)
	k := made(t, d, 0)
	save(t, k, api.Meta{Boot: 1, Epoch: 4})
	c := d.Crash()
	other := opened(t, c, 0)
	save(t, other, api.Meta{Boot: 2, Epoch: 9})
	check(t, "a Keeper of another device", k, api.Meta{Boot: 1, Epoch: 4})
	check(t, "the other one", other, api.Meta{Boot: 2, Epoch: 9})
	for i := range 2 {
		d.Write(i, []byte("spoilt"))
	}
	check(t, "the sectors were spoilt", k, api.Meta{Boot: 1, Epoch: 4})
	save(t, k, api.Meta{Boot: 1, Epoch: 5})
	check(t, "Open behind it", opened(t, d.Crash(), 0), api.Meta{Boot: 1, Epoch: 5})
}
