package node_test

import (
	"fmt"
	"math"
	"slices"
	"strconv"
	"strings"
	"testing"

	"icehouse/api"
	"icehouse/clock"
	"icehouse/dev"
	"icehouse/lease"
	"icehouse/msg"
	"icehouse/node"
	"icehouse/ring"
	"icehouse/store"
)

// sectors are so many that nothing is reclaimed in a test.
const sectors = 2048

func made(t *testing.T, id int) (*node.Node, *dev.Dev) {
	t.Helper()
	d := dev.New(sectors)
	n, err := node.Make(id, d, &clock.Clock{})
	if n == nil || err != api.OK {
		t.Fatalf("P24.3: Make(%d): %v", id, err)
	}
	return n, d
}

// member is a node of the epoch with a lease for it from now on.
func member(t *testing.T, id int, epoch int64, members ...int) (*node.Node, *dev.Dev) {
	t.Helper()
	n, d := made(t, id)
	is(t, "P24.2: a grant", n.Step(grant(id, 0, epoch, members...)))
	return n, d
}

// again is the node behind a crash that loses all that is loose, on its clock.
func again(t *testing.T, n *node.Node, id int, d *dev.Dev) (*node.Node, *dev.Dev) {
	t.Helper()
	d = d.Crash()
	m, err := node.Open(id, d, n.Clock)
	if m == nil || err != api.OK {
		t.Fatalf("P24.3: Open(%d): %v", id, err)
	}
	return m, d
}

func grant(to int, tick, epoch int64, members ...int) api.Msg {
	return api.Msg{Kind: api.MGrant, To: to, Tick: tick, Epoch: epoch, Members: members}
}

func commit(to int, epoch int64, members ...int) api.Msg {
	return api.Msg{Kind: api.MCommit, To: to, Epoch: epoch, Members: members}
}

func prepare(to int, epoch, base int64, old, members []int) api.Msg {
	return api.Msg{Kind: api.MPrepare, To: to, Epoch: epoch, Base: base, Old: old, Members: members}
}

func freeze(to int, epoch, base int64, old, members []int) api.Msg {
	m := prepare(to, epoch, base, old, members)
	m.Kind = api.MFreeze
	return m
}

func abort(to int, epoch int64) api.Msg { return api.Msg{Kind: api.MAbort, To: to, Epoch: epoch} }

func renew(from int, tick, epoch, ready int64) api.Msg {
	return api.Msg{Kind: api.MRenew, From: from, Tick: tick, Epoch: epoch, Seq: ready}
}

func prepared(from int, epoch int64, last bool) api.Msg {
	return api.Msg{Kind: api.MPrepared, From: from, Epoch: epoch, Last: last}
}

func frozen(from int, epoch int64) api.Msg {
	return api.Msg{Kind: api.MFrozen, From: from, Epoch: epoch}
}

func asks(from, to int, id int64, op int, key string, epoch int64) api.Msg {
	return api.Msg{Kind: api.MAsk, From: from, To: to, Id: id, Op: op, Key: key, Epoch: epoch}
}

func answers(from, to int, id int64, err api.Errno, x api.Item) api.Msg {
	return api.Msg{Kind: api.MAnswer, From: from, To: to, Id: id, Err: err, Item: x}
}

// items is the only message of a stream.
func items(from, to int, epoch, id, boot, seq int64, xs ...api.Item) api.Msg {
	return api.Msg{Kind: api.MItems, From: from, To: to, Epoch: epoch, Id: id, Tick: boot, N: 1, Seq: seq, Items: xs, Last: true}
}

func have(from, to int, epoch, id, boot int64, n int) api.Msg {
	return api.Msg{Kind: api.MHave, From: from, To: to, Epoch: epoch, Id: id, Tick: boot, N: n}
}

func know(from, to int, epoch, id, boot, seq int64) api.Msg {
	return api.Msg{Kind: api.MKnow, From: from, To: to, Epoch: epoch, Id: id, Tick: boot, Seq: seq}
}

func refused(id int64, op int, key string, err api.Errno) api.Reply {
	return api.Reply{Id: id, Op: op, Key: key, Err: err}
}

func got(id int64, key, val string) api.Reply {
	return api.Reply{Id: id, Op: api.OGet, Key: key, Val: val, Has: true}
}

func none(id int64, key string) api.Reply { return api.Reply{Id: id, Op: api.OGet, Key: key} }

func killed(id int64, key string) api.Reply { return api.Reply{Id: id, Op: api.OKill, Key: key} }

// told tells a message's fields that are not zero.
func told(m api.Msg) string {
	s := fmt.Sprintf("%d: %d>%d", m.Kind, m.From, m.To)
	for _, f := range []struct {
		name string
		is   any
		zero bool
	}{
		{"Epoch", m.Epoch, m.Epoch == 0}, {"Tick", m.Tick, m.Tick == 0}, {"Seq", m.Seq, m.Seq == 0}, {"N", m.N, m.N == 0},
		{"Id", m.Id, m.Id == 0}, {"Op", m.Op, m.Op == 0}, {"Key", strconv.Quote(m.Key), m.Key == ""}, {"Err", int(m.Err), m.Err == 0}, {"Last", m.Last, !m.Last},
		{"Item", m.Item, m.Item == api.Item{}}, {"Items", m.Items, len(m.Items) == 0}, {"Marks", m.Marks, len(m.Marks) == 0},
		{"Members", m.Members, len(m.Members) == 0}, {"Base", m.Base, m.Base == 0}, {"Old", m.Old, len(m.Old) == 0},
	} {
		if !f.zero {
			s += fmt.Sprintf(" %s %v", f.name, f.is)
		}
	}
	return s
}

func tell(o node.Out) string {
	var l []string
	for _, m := range o.Msgs {
		l = append(l, told(m))
	}
	for _, r := range o.Replies {
		l = append(l, fmt.Sprintf("%+v", r))
	}
	return strings.Join(l, "; ")
}

// is holds what came of a call to what should: messages and replies, each in their order.
func is(t *testing.T, what string, o node.Out, want ...any) {
	t.Helper()
	var w node.Out
	for _, x := range want {
		switch x := x.(type) {
		case api.Msg:
			w.Msgs = append(w.Msgs, x)
		case []api.Msg:
			w.Msgs = append(w.Msgs, x...)
		case api.Reply:
			w.Replies = append(w.Replies, x)
		default:
			t.Fatalf("%T", x)
		}
	}
	if !slices.EqualFunc(o.Msgs, w.Msgs, msg.Eq) || !slices.Equal(o.Replies, w.Replies) {
		t.Errorf("%s:\n %s, want\n %s", what, tell(o), tell(w))
	}
}

// metaIs holds the node's Meta to what it should be; its Boot is not asked.
func metaIs(t *testing.T, what string, n *node.Node, epoch, ready int64, frozen bool) {
	t.Helper()
	if m := n.Meta(); m.Epoch != epoch || m.Ready != ready || m.Frozen != frozen {
		t.Errorf("%s: Meta %+v, want epoch %d, ready %d, frozen %v", what, m, epoch, ready, frozen)
	}
}

func keysAre(t *testing.T, what string, n *node.Node, want ...string) {
	t.Helper()
	slices.Sort(want)
	if l := n.Keys(); !slices.Equal(l, want) {
		t.Errorf("%s: Keys %v, want %v", what, l, want)
	}
}

func readsAre(t *testing.T, what string, n *node.Node, want ...string) {
	t.Helper()
	if l := n.Reads(); !slices.Equal(l, want) {
		t.Errorf("%s: Reads %v, want %v", what, l, want)
	}
}

// ringIs holds the node's ring to what it should be; of no members: it has none.
func ringIs(t *testing.T, what string, n *node.Node, epoch int64, members ...int) {
	t.Helper()
	r := n.Ring()
	if (r != nil) != (len(members) > 0) || r.Epoch() != epoch || !slices.Equal(r.Nodes(), members) {
		t.Errorf("%s: a ring of %d, %v, want %d, %v", what, r.Epoch(), r.Nodes(), epoch, members)
	}
}

// keyOf is the i-th key that the ring of the members gives to the node.
func keyOf(id, i int, members ...int) string { return mover(id, id, i, members, members) }

// mover is the i-th key that is src's by the ring of old and dst's by that of members.
func mover(src, dst, i int, old, members []int) string {
	a, b := ring.New(1, old...), ring.New(1, members...)
	for k := 0; k < 10000; k++ {
		key := fmt.Sprint("key", k)
		if a.Of(key) != src || b.Of(key) != dst {
			continue
		}
		if i == 0 {
			return key
		}
		i--
	}
	panic("no such key")
}

// fill puts an entry of each key, and flushes them.
func fill(t *testing.T, n *node.Node, keys ...string) {
	t.Helper()
	for _, key := range keys {
		if err := n.Put(api.Item{Key: key, Val: "v " + key}); err != api.OK {
			t.Fatal(err)
		}
	}
	if err := n.Flush(); err != api.OK {
		t.Fatal(err)
	}
}

func item(key string) api.Item { return api.Item{Key: key, Val: "v " + key} }

// P24.3: Make, Open: ErrForm goes first, then what the store says.
func TestMakeErrors(t *testing.T) {
	c := &clock.Clock{}
	for _, id := range []int{0, -1, 6, math.MaxInt, math.MinInt} {
		d := dev.New(600)
		if n, err := node.Make(id, d, c); n != nil || err != api.ErrForm || d.Calls() != 0 {
			t.Errorf("P24.3: Make(%d): %v, %d calls of the device", id, err, d.Calls())
		}
		if n, err := node.Open(id, d, c); n != nil || err != api.ErrForm || d.Calls() != 0 {
			t.Errorf("P24.3: Open(%d): %v, %d calls of the device", id, err, d.Calls())
		}
		if n, err := node.Make(id, nil, nil); n != nil || err != api.ErrForm {
			t.Errorf("P24.3: Make(%d) of nothing: %v", id, err)
		}
	}
	for _, d := range []*dev.Dev{nil, dev.New(9), dev.New(191)} {
		if n, err := node.Make(1, d, c); n != nil || err != api.ErrRange {
			t.Errorf("P24.3: Make of %d sectors: %v", d.Len(), err)
		}
		if n, err := node.Open(1, d, c); n != nil || err != api.ErrRange {
			t.Errorf("P24.3: Open of %d sectors: %v", d.Len(), err)
		}
		if n, err := node.Make(1, d, nil); n != nil || err != api.ErrForm {
			t.Errorf("P24.3: Make of %d sectors without a clock: %v", d.Len(), err)
		}
	}
	d := dev.New(192)
	if n, err := node.Open(5, d, nil); n != nil || err != api.ErrForm {
		t.Errorf("P24.3: Open without a clock: %v", err)
	}
	if n, err := node.Open(5, d, c); n != nil || err != api.ErrCorrupt {
		t.Errorf("P24.3: Open of an empty device: %v", err)
	}
	if n, err := node.Make(5, d, c); n == nil || err != api.OK {
		t.Errorf("P24.3: Make of 192 sectors: %v", err)
	}
	if n, err := node.Open(5, d.Crash(), c); n == nil || err != api.OK {
		t.Errorf("P24.3: Open of 192 sectors: %v", err)
	}
}

// P24.3: a node that was just made has nothing, whatever the device had.
func TestMade(t *testing.T) {
	for id := 1; id <= 5; id++ {
		n, d := member(t, id, 7, id)
		fill(t, n, "a", "b")
		n.Kill("c")
		n.Ask(1, api.OGet, "d")
		n.Step(freeze(id, 9, 7, []int{id}, []int{1, 2, 3, 4, 5}))
		c := n.Clock
		c.Tick(5)
		n, err := node.Make(id, d, c)
		if err != api.OK || n.Meta() != (api.Meta{Boot: 1}) || n.Started() != 1 || n.Seq() != 0 || n.Left() != 0 || n.Clock != c {
			t.Fatalf("P24.3: Make: %v, %v", n.Meta(), err)
		}
		keysAre(t, "P24.3: Make", n)
		readsAre(t, "P24.3: Make", n)
		ringIs(t, "P24.3: Make", n, 0)
		is(t, "P24.1: Make", n.Beat(), renew(id, 5, 0, 0))
		if n.Serves("a") || n.Serves("") {
			t.Error("P24.3: Make: it serves")
		}
		is(t, "P24.3: Make", n.Ask(1, api.OGet, "a"), refused(1, api.OGet, "a", api.ErrBusy))
	}
}

// P24.3: a node that is opened has its Meta, its cache and its journal, but no ring, no lease, no asks, no moves.
func TestOpen(t *testing.T) {
	n, d := member(t, 2, 7, 1, 2)
	mine, other := keyOf(2, 0, 1, 2), keyOf(1, 0, 1, 2)
	gone := mover(2, 3, 0, []int{1, 2}, []int{1, 2, 3})
	fill(t, n, mine, gone)
	n.Ask(1, api.OKill, gone)
	n.Ask(2, api.OGet, gone)
	is(t, "P24.3: MAsk", n.Ask(3, api.OGet, other), asks(2, 1, 1<<20+1, api.OGet, other, 7))
	is(t, "P24.2: MFreeze", n.Step(freeze(2, 9, 7, []int{1, 2}, []int{1, 2, 3})), items(2, 3, 9, 1<<20+1, 0, 1))
	n.Tick(3)
	n, _ = again(t, n, 2, d)
	if n.Meta() != (api.Meta{Boot: 2, Epoch: 7, Ready: 9, Frozen: true}) || n.Started() != 2 || n.Seq() != 1 || n.Left() != 0 || n.Now() != 3 {
		t.Errorf("P24.3: Open: %+v, journal %d, %d ticks left at %d", n.Meta(), n.Seq(), n.Left(), n.Now())
	}
	keysAre(t, "P24.3: Open", n, mine)
	readsAre(t, "P24.3: Open", n)
	ringIs(t, "P24.3: Open", n, 0)
	if n.Serves(mine) {
		t.Error("P24.3: Open: it serves")
	}
	is(t, "P24.3: Open: Ask", n.Ask(4, api.OGet, mine), refused(4, api.OGet, mine, api.ErrBusy))
	is(t, "P24.3: Open: Read", n.Read(0, "x", true))
	is(t, "P24.3: Open: an answer to what was asked ahead of it", n.Step(answers(1, 2, 1<<20+1, api.OK, item(other))))
	is(t, "P24.3: Open: no moves", n.Step(have(3, 2, 9, 1<<20+1, 0, 1)))
	n.Tick(100)
	is(t, "P24.1: Open", n.Beat(), renew(2, 103, 7, 9))
	n.Step(grant(2, 103, 7, 1, 2))
	is(t, "P24.3: the Boot times 2^20", n.Ask(5, api.OKill, other), asks(2, 1, 2<<20+1, api.OKill, other, 7))
	is(t, "P24.3: and 1, 2, ..", n.Ask(6, api.OGet, other), asks(2, 1, 2<<20+2, api.OGet, other, 7))
}

// P24.3: the methods of the store and of the lease are the node's, by promotion.
func TestPromoted(t *testing.T) {
	n, d := made(t, 1)
	if n.Tick(4) != 4 || n.Now() != 4 || n.Clock.Since(1) != 3 || n.Lease.Ask() != 4 || !n.Take(3, 8) || !n.Good(8) || n.Left() != 19 {
		t.Error("P24.3: the lease's")
	}
	n.Lease.Drop()
	if n.Good(8) || n.Left() != 0 {
		t.Error("P24.3: n.Lease.Drop")
	}
	fill(t, n, "a", "b", "c")
	if x, ok := n.Get("a", 0); !ok || x != item("a") || len(n.Between(0, math.MaxUint64, "a", 5)) != 2 {
		t.Error("P24.3: the cache's")
	}
	if err := n.Cache.Drop("a"); err != api.OK {
		t.Errorf("P24.3: n.Cache.Drop: %v", err)
	}
	if seq, err := n.Kill("b"); seq != 1 || err != api.OK || n.Seq() != 1 || n.Base() != 0 {
		t.Errorf("P24.3: the store's Kill: %v", err)
	}
	keysAre(t, "P24.3: Kill", n, "c")
	if l, ok := n.Journal.Since(0, 5); !ok || len(l) != 1 || l[0] != (api.Mark{Seq: 1, Key: "b"}) {
		t.Errorf("P24.3: n.Journal.Since: %v", l)
	}
	if n.Wipe() != api.OK || len(n.Keys()) != 0 || n.Started() != 1 || len(d.Loose()) != 0 {
		t.Error("P24.3: Wipe")
	}
	var _ *store.Store = n.Store
	var _ *lease.Lease = n.Lease
}

// The epoch is the Meta's, also where Save brought it on: a ring of another epoch, and moves of another Ready, are none.
func TestSaved(t *testing.T) {
	n, _ := member(t, 1, 7, 1)
	n.Step(prepare(1, 9, 7, []int{1}, []int{2}))
	if !n.Serves("a") || len(n.Beat().Msgs) != 2 {
		t.Fatal("P24.2: MPrepare")
	}
	m := n.Meta()
	m.Ready = 10
	n.Save(m)
	is(t, "P24.1: no moves of what is prepared", n.Beat(), renew(1, 0, 7, 10))
	m.Frozen = true
	n.Save(m)
	if n.Serves("a") {
		t.Error("it serves, and does not know the plan")
	}
	m.Ready, m.Frozen = 0, false
	n.Save(m)
	is(t, "P24.1: nothing is prepared", n.Beat(), renew(1, 0, 7, 0))
	m.Epoch = 8
	n.Save(m)
	ringIs(t, "another epoch", n, 0)
	if n.Serves("a") {
		t.Error("it serves, and has no ring")
	}
	is(t, "P24.3: no ring", n.Ask(1, api.OGet, "a"), refused(1, api.OGet, "a", api.ErrBusy))
	n.Step(grant(1, 0, 8, 1, 2))
	ringIs(t, "P24.2: MGrant", n, 8, 1, 2)
}

// P24.3: a nil *Node, and one that neither Make nor Open made: nothing.
func TestNobody(t *testing.T) {
	s, err := store.Make(dev.New(600))
	if err != api.OK {
		t.Fatal(err)
	}
	for i, n := range []*node.Node{nil, {}, {Store: s}, {Lease: lease.New(nil)}, {Store: s, Lease: lease.New(nil)}, {Store: &store.Store{}, Lease: &lease.Lease{}}} {
		for _, m := range []api.Msg{{}, grant(0, 0, 1, 1), grant(1, 0, 1, 1), commit(1, 1, 1), prepare(1, 2, 1, []int{1}, []int{2}), freeze(1, 2, 1, []int{1}, []int{2}), abort(1, 0), asks(2, 1, 1, api.OGet, "a", 0), answers(2, 1, 1, api.OK, api.Item{})} {
			is(t, fmt.Sprint("P24.3: nobody's Step, ", i), n.Step(m))
		}
		is(t, "P24.3: nobody's Beat", n.Beat())
		is(t, "P24.3: nobody's Ask", n.Ask(1, api.OGet, "a"))
		is(t, "P24.3: nobody's Ask", n.Ask(1, 9, ""))
		is(t, "P24.3: nobody's Read", n.Read(0, "a", true))
		if len(n.Reads()) != 0 || n.Ring() != nil || n.Serves("a") || n.Serves("") {
			t.Errorf("P24.3: nobody, %d", i)
		}
	}
	if s.Meta() != (api.Meta{Boot: 1}) {
		t.Errorf("P24.3: nobody has written %v", s.Meta())
	}
}
