package control_test

import (
	"bytes"
	"fmt"
	"math"
	"slices"
	"testing"

	"icehouse/api"
	"icehouse/clock"
	"icehouse/control"
	"icehouse/dev"
	"icehouse/msg"
	"icehouse/points"
	"icehouse/super"
)

const edge = 1 << 40

// Ways, embedding: the clock's methods are promoted to a Control as a value too, not only to a pointer to one.
var (
	_ counts = control.Control{}
	_ counts = &control.Control{}
)

type counts interface {
	Now() int64
	Tick(ns ...int64) int64
	Since(t int64) int64
}

// rings are all lists of nodes that may be.
func rings() [][]int {
	var out [][]int
	for bits := 1; bits < 32; bits++ {
		var nodes []int
		for node := 1; node <= 5; node++ {
			if bits>>(node-1)&1 == 1 {
				nodes = append(nodes, node)
			}
		}
		out = append(out, nodes)
	}
	return out
}

func made(t *testing.T, nodes ...int) (*control.Control, *dev.Dev) {
	t.Helper()
	d := dev.New(2)
	c, err := control.Make(d, nodes...)
	if c == nil || err != api.OK {
		t.Fatalf("P23.1: Make of %v: %v", nodes, err)
	}
	return c, d
}

func opened(t *testing.T, d *dev.Dev, k *clock.Clock) *control.Control {
	t.Helper()
	c, err := control.Open(d, k)
	if c == nil || err != api.OK {
		t.Fatalf("P23.1: Open: %v", err)
	}
	return c
}

// check holds what a Control tells of itself.
func check(t *testing.T, what string, c *control.Control, epoch, under int64, members ...int) {
	t.Helper()
	if c.Epoch() != epoch || c.Under() != under || !slices.Equal(c.Members(), members) {
		t.Errorf("%s: epoch %d of %v, %d under way, want %d of %v, %d", what, c.Epoch(), c.Members(), c.Under(), epoch, members, under)
	}
}

// is says that the messages are those that are wanted.
func is(t *testing.T, what string, got []api.Msg, want ...api.Msg) {
	t.Helper()
	if !slices.EqualFunc(got, want, msg.Eq) {
		t.Fatalf("%s: %v, want %v", what, got, want)
	}
	for _, m := range got {
		if !msg.May(m) {
			t.Fatalf("%s: it may not be: %v", what, m)
		}
	}
}

// The messages of the chapter, each to several nodes.

func asks(kind int, number int64, members []int, base int64, old []int, nodes ...int) []api.Msg {
	var out []api.Msg
	for _, node := range nodes {
		out = append(out, api.Msg{Kind: kind, To: node, Epoch: number, Members: members, Base: base, Old: old})
	}
	return out
}

func commits(epoch int64, members []int, nodes ...int) []api.Msg {
	var out []api.Msg
	for _, node := range nodes {
		out = append(out, api.Msg{Kind: api.MCommit, To: node, Epoch: epoch, Members: members})
	}
	return out
}

func aborts(number int64, nodes ...int) []api.Msg {
	var out []api.Msg
	for _, node := range nodes {
		out = append(out, api.Msg{Kind: api.MAbort, To: node, Epoch: number})
	}
	return out
}

func grant(node int, tick, epoch int64, members ...int) api.Msg {
	return api.Msg{Kind: api.MGrant, To: node, Tick: tick, Epoch: epoch, Members: members}
}

// What nodes say.

func renew(node int, epoch, ready int64) api.Msg {
	return api.Msg{Kind: api.MRenew, From: node, Tick: 77, Epoch: epoch, Seq: ready}
}

func prepared(node int, number int64) api.Msg {
	return api.Msg{Kind: api.MPrepared, From: node, Epoch: number, Last: true}
}

func frozen(node int, number int64) api.Msg {
	return api.Msg{Kind: api.MFrozen, From: node, Epoch: number}
}

// pass brings the change under way through a phase; it answers what comes of the last answer.
func pass(t *testing.T, c *control.Control, say func(int, int64) api.Msg, nodes ...int) []api.Msg {
	t.Helper()
	var out []api.Msg
	for i, node := range nodes {
		out = c.Step(say(node, c.Under()))
		if i < len(nodes)-1 {
			is(t, "P23.3: not all have answered", out)
		}
	}
	return out
}

// contents are the sectors as they are now.
func contents(d *dev.Dev) []string {
	var out []string
	for i := range d.Len() {
		b, _ := d.Read(i)
		out = append(out, string(b))
	}
	return out
}

// filled is a device whose sectors are all full of c, and last.
func filled(n int, c byte) *dev.Dev {
	d := dev.New(n)
	for i := range n {
		d.Write(i, bytes.Repeat([]byte{c}, api.Sector))
	}
	d.Flush()
	return d
}

// P23.1: Make: the epoch 1 of just these nodes, on a clock of its own, kept on the sectors 0 and 1 alone, whatever the device had.
func TestMake(t *testing.T) {
	for _, nodes := range rings() {
		for _, n := range []int{2, 3, 7, 2048} {
			d := filled(n, 0xee)
			elder, _ := control.Make(d, 1, 2, 3)
			elder.Leave(2)
			pass(t, elder, prepared, 1, 2, 3)
			pass(t, elder, frozen, 1, 2, 3)
			elder.Join(2)
			c, err := control.Make(d, nodes...)
			if err != api.OK || len(d.Loose()) != 0 {
				t.Fatalf("P23.1: Make of %v on %d sectors: %v, %v is loose", nodes, n, err, d.Loose())
			}
			check(t, "P23.1: Make", c, 1, 0, nodes...)
			check(t, "P23.1: Open behind Make", opened(t, d.Crash(), nil), 1, 0, nodes...)
			if c.Now() != 0 || c.Tick(3) != 3 || c.Clock == elder.Clock || elder.Now() != 0 {
				t.Error("P23.1: Make: no clock of its own")
			}
			is(t, "P23.1: Beat behind Make", c.Beat())
			if !slices.Equal(contents(d)[2:], contents(filled(n, 0xee))[2:]) {
				t.Errorf("P23.1: Make on %d sectors: sectors behind the first two were written", n)
			}
		}
	}
}

// P23.1: top is 1: the first change's number is 2, also behind an Open.
func TestFirstNumber(t *testing.T) {
	c, d := made(t, 1, 2)
	e := opened(t, d.Crash(), nil)
	for _, x := range []*control.Control{c, e} {
		x.Leave(1)
		check(t, "P23.1: the first change", x, 1, 2, 1, 2)
	}
}

// P23.1: Make: ErrForm of nodes that may not be, ahead of the device's errors; nothing is written.
func TestMakeForm(t *testing.T) {
	var lists [][]int
	last := [][]int{{}}
	for range 4 {
		var longer [][]int
		for _, l := range last {
			for node := -1; node <= 6; node++ {
				longer = append(longer, append(slices.Clone(l), node))
			}
		}
		lists, last = append(lists, last...), longer
	}
	lists = append(lists, last...)
	lists = append(lists, nil, []int{1, 2, 3, 4, 5}, []int{1, 2, 3, 4, 5, 6}, []int{0, 1, 2, 3, 4, 5}, []int{1, 2, 3, 4, 5, 5}, slices.Repeat([]int{1}, 1<<20), []int{math.MaxInt}, []int{math.MinInt}, []int{1<<32 + 1}, []int{1, 1<<32 + 2})
	d := filled(2, 0xee)
	calls := d.Calls()
	for _, l := range lists {
		if points.May(l) {
			if c, err := control.Make(dev.New(2), l...); c == nil || err != api.OK || !slices.Equal(c.Members(), l) {
				t.Errorf("P23.1: Make of %v: %v", l, err)
			}
			continue
		}
		for _, x := range []*dev.Dev{d, nil, dev.New(1)} {
			if c, err := control.Make(x, l...); c != nil || err != api.ErrForm {
				t.Fatalf("P23.1: Make of %v: %v, want ErrForm", l[:min(len(l), 9)], err)
			}
		}
	}
	if !slices.Equal(contents(d), contents(filled(2, 0xee))) || d.Calls() != calls {
		t.Error("P23.1: what was refused was written")
	}
}

// P23.1, P23.2: no such sectors is the device's error, and so ErrDown.
func TestNoSectors(t *testing.T) {
	for _, d := range []*dev.Dev{nil, dev.New(1), {}} {
		if c, err := control.Make(d, 1, 2); c != nil || err != api.ErrDown {
			t.Errorf("P23.2: Make on %d sectors: %v, want ErrDown", d.Len(), err)
		}
		if c, err := control.Open(d, &clock.Clock{}); c != nil || err != api.ErrDown {
			t.Errorf("P23.2: Open of %d sectors: %v, want ErrDown", d.Len(), err)
		}
	}
}

// P23.1: Open: what was kept, on that clock, nothing under way; it writes nothing.
func TestOpen(t *testing.T) {
	c, d := made(t, 2, 3, 5)
	k := &clock.Clock{}
	k.Tick(30)
	see := func(what string, epoch int64, members ...int) {
		t.Helper()
		x := d.Crash()
		e := opened(t, x, k)
		check(t, what, e, epoch, 0, members...)
		is(t, what, e.Beat())
		if l, err := e.Back(); len(l) != 0 || err != api.ErrNone {
			t.Errorf("%s: Back %v", what, err)
		}
		if e.Clock != k || e.Now() != k.Now() || x.Calls() != 0 {
			t.Errorf("%s: on another clock, or %d calls", what, x.Calls())
		}
	}
	see("P23.1: Open behind Make", 1, 2, 3, 5)
	c.Join(1)
	see("P23.1: Open in the first phase", 1, 2, 3, 5)
	pass(t, c, prepared, 1, 2, 3, 5)
	see("P23.1: Open in the second phase", 1, 2, 3, 5)
	pass(t, c, frozen, 1, 2, 3, 5)
	see("P23.1: Open behind the commit", 2, 1, 2, 3, 5)
	c.Step(renew(3, 2, 0))
	c.Lose(3)
	pass(t, c, prepared, 1, 2, 5)
	pass(t, c, frozen, 1, 2, 5)
	see("P23.1: Open in the third phase", 2, 1, 2, 3, 5)
	c.Back()
	see("P23.1: Open behind Back", 2, 1, 2, 3, 5)
	if opened(t, d, k).Tick(5); k.Now() != 35 {
		t.Error("P23.1: its clock doesn't go")
	}
}

// P0.1: on a nil clock, which stands at 0, nothing panics.
func TestOpenNilClock(t *testing.T) {
	_, d := made(t, 1, 2)
	e := opened(t, d, nil)
	if e.Now() != 0 || e.Tick(50) != 0 || e.Since(0) != 0 {
		t.Error("P23.1: a nil clock counts")
	}
	is(t, "P23.3: MRenew", e.Step(renew(1, 1, 0)), grant(1, 77, 1, 1, 2))
	e.Lose(2)
	pass(t, e, prepared, 1)
	is(t, "P23.1: granted just now", pass(t, e, frozen, 1))
	is(t, "P23.1: granted just now", e.Beat())
	check(t, "P23.1: granted just now", e, 1, 2, 1, 2)
}

// P23.1: ErrCorrupt: nothing was kept there, or nothing of an authority's.
func TestCorrupt(t *testing.T) {
	refused := func(what string, d *dev.Dev) {
		t.Helper()
		calls := d.Calls()
		if c, err := control.Open(d, &clock.Clock{}); c != nil || err != api.ErrCorrupt || d.Calls() != calls {
			t.Errorf("P23.1: %s: %v, want ErrCorrupt", what, err)
		}
	}
	refused("a new device", dev.New(2))
	refused("a new device", dev.New(2048))
	for c := range 256 {
		refused("sectors full of one byte", filled(2, byte(c)))
	}
	for _, text := range []string{"", "a", "\x00\x00\x00\x00", "\x02", "\x02\x02", "\x02\x02\x80"} {
		d := dev.New(2)
		super.Make(d, 0, []byte(text))
		refused("another layer's text", d)
	}
	d := dev.New(4)
	c, _ := control.Make(d, 1, 2)
	c.Join(3)
	b, _ := d.Read(0)
	x := dev.New(4)
	x.Write(1, b)
	x.Write(2, b)
	x.Write(3, b)
	if e, err := control.Open(x, nil); err != api.OK || e.Epoch() != 1 {
		t.Errorf("P23.1: one of the two is whole: %v", err)
	}
	x.Write(1, []byte("spoilt"))
	refused("on other sectors", x)
}

// The three changes.

type change struct {
	name  string
	begin func(c *control.Control, node int) ([]api.Msg, api.Errno)
}

var changes = []change{
	{"Join", (*control.Control).Join},
	{"Leave", (*control.Control).Leave},
	{"Lose", (*control.Control).Lose},
}

// want are the new members of a change, all of its members and its nodes; false: ErrForm.
func (x change) want(old []int, node int) (members, all, nodes []int, ok bool) {
	for n := 1; n <= 5; n++ {
		was := slices.Contains(old, n)
		is := was
		if n == node {
			ok = was == (x.name != "Join")
			is = x.name == "Join"
		}
		if is {
			members = append(members, n)
		}
		if was || is {
			all = append(all, n)
		}
		if (was || is) && (x.name != "Lose" || n != node) {
			nodes = append(nodes, n)
		}
	}
	return members, all, nodes, ok && len(members) > 0
}

// P23.2: each change of each node to each list of members, through all its phases by hand; each that may not be is ErrForm and changes nothing.
func TestChanges(t *testing.T) {
	for _, old := range rings() {
		for _, x := range changes {
			for _, node := range []int{1, 2, 3, 4, 5, 0, -1, 6, 7, 1<<32 + 1, math.MaxInt, math.MinInt} {
				c, d := made(t, old...)
				calls := d.Calls()
				what := fmt.Sprintf("P23.2: %s(%d) of %v", x.name, node, old)
				members, all, nodes, ok := x.want(old, node)
				l, err := x.begin(c, node)
				if !ok {
					if len(l) != 0 || err != api.ErrForm || d.Calls() != calls {
						t.Errorf("%s: %v, %v, want ErrForm", what, l, err)
					}
					check(t, what, c, 1, 0, old...)
					continue
				}
				if err != api.OK || len(d.Loose()) != 0 {
					t.Errorf("%s: %v, %v is loose", what, err, d.Loose())
				}
				through(t, what, c, l, old, members, all, nodes)
				check(t, what, opened(t, d.Crash(), nil), 2, 0, members...)
			}
		}
	}
}

// through brings the change 2 through its phases, holding all that comes of it; l are its first messages.
func through(t *testing.T, what string, c *control.Control, l []api.Msg, old, members, all, nodes []int) {
	t.Helper()
	prepares := asks(api.MPrepare, 2, members, 1, old, nodes...)
	freezes := asks(api.MFreeze, 2, members, 1, old, nodes...)
	is(t, what, l, prepares...)
	for i, node := range nodes {
		check(t, what, c, 1, 2, old...)
		is(t, what+": Beat", c.Beat(), prepares...)
		is(t, what+": MFrozen ahead of its phase", c.Step(frozen(node, 2)))
		l = c.Step(prepared(node, 2))
		if i < len(nodes)-1 {
			is(t, what+": MPrepared", l)
		}
	}
	is(t, what+": all MPrepared", l, freezes...)
	for i, node := range nodes {
		check(t, what, c, 1, 2, old...)
		is(t, what+": Beat", c.Beat(), freezes...)
		is(t, what+": MPrepared behind its phase", c.Step(prepared(node, 2)))
		l = c.Step(frozen(node, 2))
		if i < len(nodes)-1 {
			is(t, what+": MFrozen", l)
		}
	}
	is(t, what+": all MFrozen", l, commits(2, members, all...)...)
	check(t, what, c, 2, 0, members...)
	is(t, what+": Beat behind it", c.Beat())
	if l, err := c.Back(); len(l) != 0 || err != api.ErrNone {
		t.Errorf("%s: Back behind it: %v, %v", what, l, err)
	}
}

// P23.2: ErrBusy, in each phase, ahead of ErrForm; it changes nothing.
func TestBusy(t *testing.T) {
	c, d := made(t, 1, 2, 3)
	c.Step(renew(3, 1, 0))
	busy := func(what string) {
		t.Helper()
		calls, want := d.Calls(), c.Beat()
		for _, x := range changes {
			for node := -1; node <= 7; node++ {
				if l, err := x.begin(c, node); len(l) != 0 || err != api.ErrBusy {
					t.Errorf("P23.2: %s, %s(%d): %v, want ErrBusy", what, x.name, node, err)
				}
			}
		}
		is(t, "P23.2: Beat behind ErrBusy", c.Beat(), want...)
		check(t, "P23.2: "+what, c, 1, 2, 1, 2, 3)
		if d.Calls() != calls {
			t.Errorf("P23.2: %s: written", what)
		}
	}
	c.Lose(3)
	busy("the first phase")
	pass(t, c, prepared, 1, 2)
	busy("the second phase")
	pass(t, c, frozen, 1, 2)
	busy("the third phase")
	c.Tick(40)
	c.Beat()
	for _, x := range changes[1:] {
		if _, err := x.begin(c, 3); err != api.ErrForm {
			t.Errorf("P23.2: behind it %s: %v, want ErrForm", x.name, err)
		}
	}
	if l, err := c.Join(3); err != api.OK || len(l) != 3 {
		t.Errorf("P23.2: behind it: %v", err)
	}
}

// P23.3: whatever is not just the answer that a phase waits for says nothing, and is not noted.
func TestOtherAnswers(t *testing.T) {
	for phase, say := range []func(int, int64) api.Msg{prepared, frozen} {
		for _, x := range changes {
			c, _ := made(t, 1, 2, 4)
			c.Step(renew(1, 1, 0))
			c.Leave(2) // so that there is a number that was given up
			c.Back()
			node := map[string]int{"Join": 3, "Leave": 1, "Lose": 1}[x.name]
			_, _, nodes, _ := x.want([]int{1, 2, 4}, node)
			x.begin(c, node)
			if phase == 1 {
				pass(t, c, prepared, nodes...)
			}
			want := c.Beat()
			first, last := nodes[0], nodes[len(nodes)-1]
			for _, n := range nodes[1:] {
				is(t, "P23.3: an answer", c.Step(say(n, 3)))
			}
			other := []api.Msg{say(last, 3), say(first, 2), say(first, 1), say(first, 0), say(first, 4), say(first, edge), say(first, edge+1), say(5, 3), say(0, 3), say(6, 3), say(-1, 3), {}}
			if x.name == "Lose" {
				other = append(other, say(1, 3))
			}
			for kind := -1; kind <= 15; kind++ {
				m := say(first, 3)
				if m.Kind == kind || kind == api.MRenew {
					continue
				}
				m.Kind = kind
				other = append(other, m)
			}
			m := say(first, 3)
			m.To = 2
			other = append(other, m)
			m = say(first, 3)
			m.Base = -1 // it may not be
			other = append(other, m)
			if phase == 0 {
				m = say(first, 3)
				m.Last = false
				other = append(other, m)
			}
			for _, m := range other {
				is(t, fmt.Sprintf("P23.3: %s, %v", x.name, m), c.Step(m))
				is(t, "P23.3: Beat behind it", c.Beat(), want...)
				check(t, "P23.3: behind it", c, 1, 3, 1, 2, 4)
			}
			c.Tick(40)
			got := c.Step(say(first, 3))
			if len(got) == 0 || got[0].Kind != []int{api.MFreeze, api.MCommit}[phase] {
				t.Errorf("P23.3: %s, the last answer: %v", x.name, got)
			}
		}
	}
}

// P23.3: an MPrepared without Last takes nothing back; a node's other fields are not asked.
func TestNoted(t *testing.T) {
	c, _ := made(t, 1, 2)
	c.Join(3)
	c.Step(prepared(1, 2))
	c.Step(api.Msg{Kind: api.MPrepared, From: 1, Epoch: 2})
	c.Step(prepared(3, 2))
	m := prepared(2, 2)
	m.Tick, m.Seq, m.N, m.Id, m.Key, m.Members = 5, 6, 7, 8, "k", []int{4}
	if l := c.Step(m); len(l) != 3 || l[0].Kind != api.MFreeze {
		t.Errorf("P23.3: %v", l)
	}
	c.Step(frozen(3, 2))
	c.Step(frozen(2, 2))
	m = frozen(1, 2)
	m.Last, m.Tick, m.Old = true, 5, []int{4}
	if l := c.Step(m); len(l) != 3 || l[0].Kind != api.MCommit {
		t.Errorf("P23.3: %v", l)
	}
}

// P23.2: answers that came ahead of a Back do not count for the next change, nor those of the first phase for the second.
func TestNotedAnew(t *testing.T) {
	c, _ := made(t, 1, 2)
	c.Join(3)
	pass(t, c, prepared, 1, 2, 3)
	c.Step(frozen(1, 2))
	c.Step(frozen(2, 2))
	c.Back()
	c.Join(3)
	for _, n := range []int{3, 1} {
		is(t, "P23.2: the next change", c.Step(prepared(n, 3)))
	}
	if l := c.Step(prepared(2, 3)); len(l) != 3 || l[0].Kind != api.MFreeze {
		t.Errorf("P23.2: the next change: %v", l)
	}
	is(t, "P23.2: MFrozen of the one that was given up", pass(t, c, func(n int, _ int64) api.Msg { return frozen(n, 2) }, 1, 2, 3))
	pass(t, c, frozen, 1, 2, 3)
	check(t, "P23.2: the next change", c, 3, 0, 1, 2, 3)
}
