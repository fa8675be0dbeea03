package control_test

import (
	"fmt"
	"math"
	"slices"
	"testing"

	"icehouse/api"
	"icehouse/clock"
	"icehouse/control"
	"icehouse/dev"
	"icehouse/msg"
)

// answers is what the chapter has an MRenew answered, where the epoch is 4 of 1, 3, 5, and number is under way (0: none), which loses a node (0: none).
func answers(m api.Msg, number int64, lost int) []api.Msg {
	var out []api.Msg
	members := []int{1, 3, 5}
	if m.Seq > 4 && m.Seq != number {
		out = aborts(m.Seq, m.From)
	}
	switch {
	case slices.Contains(members, m.From) && m.From != lost:
		out = append(out, grant(m.From, m.Tick, 4, members...))
	case m.Epoch < 4:
		out = append(out, commits(4, members, m.From)...)
	}
	return out
}

// at4 is an authority of the epoch 4 of 1, 3, 5.
func at4(t *testing.T) *control.Control {
	t.Helper()
	c, _ := made(t, 1, 2, 3, 5)
	for range 2 {
		c.Join(4)
		c.Back()
	}
	c.Leave(2)
	pass(t, c, prepared, 1, 2, 3, 5)
	pass(t, c, frozen, 1, 2, 3, 5)
	check(t, "P23.2: the epoch 4", c, 4, 0, 1, 3, 5)
	return c
}

// P23.3: MRenew of each node, of epochs and with numbers about the authority's, with nothing under way and in each phase of each change.
func TestRenew(t *testing.T) {
	for _, x := range changes {
		node := map[string]int{"Join": 2, "Leave": 3, "Lose": 3}[x.name]
		_, _, nodes, _ := x.want([]int{1, 3, 5}, node)
		lost := 0
		if x.name == "Lose" {
			lost = node
		}
		c := at4(t)
		renews(t, c, 0, 0)
		x.begin(c, node)
		renews(t, c, 5, lost)
		pass(t, c, prepared, nodes...)
		renews(t, c, 5, lost)
		if lost > 0 {
			is(t, "P23.2: it waits", pass(t, c, frozen, nodes...))
			renews(t, c, 5, lost)
		}
		c.Back()
		renews(t, c, 0, 0)
	}
}

func renews(t *testing.T, c *control.Control, number int64, lost int) {
	t.Helper()
	want := c.Beat()
	for node := 1; node <= 5; node++ {
		for _, epoch := range []int64{0, 1, 3, 4, 5, 6, edge} {
			for _, ready := range []int64{0, 1, 3, 4, 5, 6, 7, edge} {
				for _, tick := range []int64{0, 9, edge} {
					m := api.Msg{Kind: api.MRenew, From: node, Tick: tick, Epoch: epoch, Seq: ready}
					is(t, fmt.Sprintf("P23.3: %v, %d is under way", m, number), c.Step(m), answers(m, number, lost)...)
				}
			}
		}
	}
	is(t, "P23.3: Beat behind MRenew", c.Beat(), want...)
	check(t, "P23.3: behind MRenew", c, 4, number, 1, 3, 5)
}

// P23.3: MRenew that may not be, or is not to the authority, says nothing and grants nothing.
func TestRenewRefused(t *testing.T) {
	c, _ := made(t, 1, 2)
	for _, m := range []api.Msg{
		{Kind: api.MRenew, From: 2, To: 1}, {Kind: api.MRenew, From: 2, To: 2}, {Kind: api.MRenew, From: 0}, {Kind: api.MRenew, From: 6}, {Kind: api.MRenew, From: -1},
		{Kind: api.MRenew, From: math.MaxInt}, {Kind: api.MRenew, From: math.MinInt}, {Kind: api.MRenew, From: 1<<32 + 2},
		{Kind: api.MRenew, From: 2, Tick: -1}, {Kind: api.MRenew, From: 2, Tick: edge + 1}, {Kind: api.MRenew, From: 2, Epoch: -1}, {Kind: api.MRenew, From: 2, Epoch: edge + 1},
		{Kind: api.MRenew, From: 2, Seq: edge + 1}, {Kind: api.MRenew, From: 2, Seq: math.MaxInt64}, {Kind: api.MRenew, From: 2, N: -1}, {Kind: api.MRenew, From: 2, Members: []int{2, 1}}, {Kind: api.MRenew, From: 2, Key: string(make([]byte, 41))},
		{},
	} {
		if msg.May(m) && m.To == 0 {
			t.Fatalf("%v may be", m)
		}
		is(t, fmt.Sprintf("P23.3: %v", m), c.Step(m))
	}
	c.Lose(2)
	pass(t, c, prepared, 1)
	is(t, "P23.3: nothing was granted", pass(t, c, frozen, 1), commits(2, []int{1}, 1, 2)...)
}

// P23.3: messages of other kinds say nothing.
func TestOtherKinds(t *testing.T) {
	c, _ := made(t, 1, 2)
	for kind := -1; kind <= 16; kind++ {
		for _, m := range []api.Msg{{Kind: kind, From: 2}, {Kind: kind, From: 4}, {Kind: kind, From: 2, Epoch: 1, Seq: 9, Tick: 3, Last: true, Members: []int{1}, Old: []int{2}}} {
			if kind != api.MRenew {
				is(t, "P23.3: another kind", c.Step(m))
			}
		}
	}
	check(t, "P23.3: other kinds", c, 1, 0, 1, 2)
	c.Lose(2)
	pass(t, c, prepared, 1)
	is(t, "P23.3: nothing was granted", pass(t, c, frozen, 1), commits(2, []int{1}, 1, 2)...)
}

// P0.1, P23.3: a nil *Control, and one that neither Make nor Open made: 0, nothing, ErrDown.
func TestNil(t *testing.T) {
	for _, none := range []*control.Control{nil, {}, {Clock: &clock.Clock{}}} {
		for range 2 {
			for _, x := range changes {
				for node := -1; node <= 6; node++ {
					if l, err := x.begin(none, node); len(l) != 0 || err != api.ErrDown {
						t.Errorf("P23.3: nil: %s(%d): %v, %v", x.name, node, l, err)
					}
				}
			}
			if l, err := none.Back(); len(l) != 0 || err != api.ErrDown {
				t.Errorf("P23.3: nil: Back: %v, %v", l, err)
			}
			for kind := -1; kind <= 15; kind++ {
				is(t, "P23.3: nil", none.Step(api.Msg{Kind: kind, From: 1, Epoch: 2, Seq: 3, Last: true}))
			}
			is(t, "P23.3: nil", none.Beat())
			check(t, "P23.3: nil", none, 0, 0)
		}
	}
}

// Ways, embedding: Now, Tick, Since are the clock's own.
func TestPromoted(t *testing.T) {
	c, d := made(t, 1, 2)
	if c.Tick(4, -1, 3) != 7 || c.Tick() != 8 || c.Now() != 8 || c.Clock.Now() != 8 || c.Since(3) != 5 || c.Since(9) != 0 {
		t.Errorf("P23.1: its clock: %d", c.Now())
	}
	k := &clock.Clock{}
	e := opened(t, d, k)
	k.Tick(5)
	if e.Now() != 5 || e.Tick(2) != 7 || k.Now() != 7 || c.Now() != 8 {
		t.Error("P23.1: Open is on another clock")
	}
}

// P0.5: two authorities know nothing of one another, on one clock neither.
func TestApart(t *testing.T) {
	k := &clock.Clock{}
	_, d := made(t, 1, 2)
	a, b := opened(t, d.Crash(), k), opened(t, d.Crash(), k)
	k.Tick(40)
	a.Step(renew(2, 1, 0))
	b.Lose(2)
	check(t, "P0.5", a, 1, 0, 1, 2)
	pass(t, b, prepared, 1)
	is(t, "P0.5", pass(t, b, frozen, 1), commits(2, []int{1}, 1, 2)...)
	check(t, "P0.5", a, 1, 0, 1, 2)
}

// scribble writes over all that an answer has, spare room too.
func scribble(l []api.Msg) {
	for _, m := range l[:cap(l)] {
		for _, nodes := range [][]int{m.Members, m.Old} {
			for i := range nodes[:cap(nodes)] {
				nodes[:cap(nodes)][i] = 99
			}
		}
	}
	clear(l[:cap(l)])
}

// P0.3: what is handed in is neither changed nor kept; whoever writes into an answer changes nothing else.
func TestMemory(t *testing.T) {
	room := []int{1, 2, 4, 5, 5}
	c, err := control.Make(dev.New(2), room[:3]...)
	if err != api.OK || !slices.Equal(room, []int{1, 2, 4, 5, 5}) {
		t.Fatalf("P0.3: Make: %v, %v", err, room)
	}
	clear(room)
	check(t, "P0.3: Make", c, 1, 0, 1, 2, 4)
	members := c.Members()
	clear(members[:cap(members)])
	check(t, "P0.3: Members", c, 1, 0, 1, 2, 4)
	m := renew(1, 0, 9)
	m.Members, m.Old = []int{3}, []int{5}
	scribble(c.Step(m))
	if m.Members[0] != 3 || m.Old[0] != 5 {
		t.Error("P0.3: Step changed the message")
	}
	old, more := []int{1, 2, 4}, []int{1, 2, 3, 4}
	l, _ := c.Join(3)
	l[0].Members[0], l[0].Old[0] = 9, 9
	is(t, "P0.3: lists of one answer", l[1:], asks(api.MPrepare, 2, more, 1, old, 2, 3, 4)...)
	scribble(l)
	is(t, "P0.3: Beat", c.Beat(), asks(api.MPrepare, 2, more, 1, old, more...)...)
	scribble(c.Beat())
	l = pass(t, c, prepared, more...)
	is(t, "P0.3: Freeze", l, asks(api.MFreeze, 2, more, 1, old, more...)...)
	scribble(l)
	l = pass(t, c, frozen, more...)
	l[0].Members[0] = 9
	is(t, "P0.3: lists of one answer", l[1:], commits(2, more, 2, 3, 4)...)
	scribble(l)
	check(t, "P0.3: Commit", c, 2, 0, more...)
	l = c.Step(renew(1, 2, 0))
	scribble(l)
	is(t, "P0.3: MGrant", c.Step(renew(1, 2, 0)), grant(1, 77, 2, more...))
	c.Leave(1)
	l, _ = c.Back()
	is(t, "P0.3: Back", l, aborts(3, more...)...)
	scribble(l)
	check(t, "P0.3: Back", c, 2, 0, more...)
}
