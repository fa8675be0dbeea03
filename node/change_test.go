package node_test

import (
	"fmt"
	"testing"

	"icehouse/api"
	"icehouse/node"
)

const boot = 1 << 20

var (
	one  = []int{1}
	two  = []int{1, 2}
	all3 = []int{1, 2, 3}
)

// P24.2: MGrant: of a lesser epoch, or without Members, nothing; of its epoch the ring, if it has none; then the lease takes.
func TestGrant(t *testing.T) {
	n, _ := made(t, 1)
	n.Tick(100)
	is(t, "P24.2: of a greater epoch", n.Step(grant(1, 95, 7, 1, 2)))
	ringIs(t, "P24.2", n, 7, 1, 2)
	metaIs(t, "P24.2", n, 7, 0, false)
	if n.Left() != 15 || !n.Good(7) {
		t.Errorf("P24.2: MGrant: %d ticks left", n.Left())
	}
	for _, m := range []api.Msg{grant(1, 100, 6, 1), grant(1, 100, 0, 1), grant(1, 100, 7), grant(1, 100, 8), grant(2, 100, 7, 1, 2), grant(2, 100, 8, 1), grant(1, 100, 7, 2, 1), grant(1, 100, 8, 1, 6), grant(1, 100, 8, 0), grant(1, -1, 8, 1), grant(1, 100, api.MaxNum+1, 1)} {
		is(t, "P24.2: "+told(m), n.Step(m))
		ringIs(t, "P24.2: "+told(m), n, 7, 1, 2)
		metaIs(t, "P24.2: "+told(m), n, 7, 0, false)
		if n.Left() != 15 {
			t.Errorf("P24.2: %s: %d ticks left", told(m), n.Left())
		}
	}
	for _, x := range []struct{ tick, left int64 }{{94, 15}, {95, 15}, {96, 16}, {101, 16}, {80, 16}, {0, 16}, {100, 20}} {
		is(t, "P24.2: it takes", n.Step(grant(1, x.tick, 7, 1, 2)))
		if n.Left() != x.left {
			t.Errorf("P24.2: MGrant of %d: %d ticks left, want %d", x.tick, n.Left(), x.left)
		}
	}
	// a ring that is there stays, whatever is told of it
	n.Step(grant(1, 100, 7, 1, 2, 3))
	ringIs(t, "P24.2: it has a ring", n, 7, 1, 2)
	n.Tick()
	is(t, "P24.2: a grant that is over", n.Step(grant(1, 81, 8, 1)))
	ringIs(t, "P24.2: adopted all the same", n, 8, 1)
	if n.Left() != 0 || n.Serves("a") {
		t.Errorf("P24.2: the lease of an elder epoch: %d ticks left", n.Left())
	}
	n.Step(grant(1, 101, api.MaxNum, 2, 3))
	ringIs(t, "P24.2: the greatest epoch", n, api.MaxNum, 2, 3)
	if n.Left() != 20 || n.Serves("a") {
		t.Error("P24.2: a grant of a ring of others")
	}
}

// P24.2: behind a start: a grant of its epoch tells it the ring, and the keys of others go, unless something is prepared.
func TestGrantBehindStart(t *testing.T) {
	mine, other, later := mover(1, 1, 0, two, one), mover(2, 2, 0, two, two), mover(2, 1, 1, two, one)
	for _, kind := range []string{"nothing", "prepared", "frozen"} {
		n, d := member(t, 1, 7, 1, 2)
		switch kind {
		case "prepared":
			n.Step(prepare(1, 9, 7, two, one))
		case "frozen":
			n.Step(freeze(1, 9, 7, two, one))
		}
		fill(t, n, mine, other, later)
		n, _ = again(t, n, 1, d)
		is(t, "P24.2: MCommit of its epoch", n.Step(commit(1, 7, 1, 2)))
		ringIs(t, "P24.2: MCommit of its epoch", n, 0)
		is(t, "P24.2: without Members", n.Step(grant(1, 0, 7)))
		is(t, "P24.2: of a lesser epoch", n.Step(grant(1, 0, 6, 1, 2)))
		ringIs(t, "P24.2: nothing", n, 0)
		keysAre(t, "P24.2: nothing", n, mine, other, later)
		if n.Left() != 0 {
			t.Error("P24.2: nothing, and a lease")
		}
		is(t, "P24.2: MGrant", n.Step(grant(1, 0, 7, 1, 2)))
		ringIs(t, "P24.2: MGrant", n, 7, 1, 2)
		if kind == "nothing" {
			keysAre(t, "P24.2: MGrant, nothing is prepared", n, mine)
			metaIs(t, "P24.2: MGrant", n, 7, 0, false)
		} else {
			keysAre(t, "P24.2: MGrant, "+kind, n, mine, other, later)
			metaIs(t, "P24.2: MGrant", n, 7, 9, kind == "frozen")
		}
		if n.Left() != 20 || n.Serves(mine) != (kind != "frozen") || n.Serves(other) {
			t.Errorf("P24.2: MGrant, %s", kind)
		}
	}
}

// The epoch 0 has no ring: a grant of it says nothing.
func TestGrantOfNoEpoch(t *testing.T) {
	n, _ := made(t, 1)
	fill(t, n, "a", "b")
	is(t, "P24.2: MGrant of the epoch 0", n.Step(grant(1, 0, 0, 1)))
	is(t, "P24.2: MCommit of the epoch 0", n.Step(commit(1, 0, 2)))
	is(t, "P24.2: MAbort of the epoch 0", n.Step(abort(1, 0)))
	ringIs(t, "P24.2: the epoch 0", n, 0)
	keysAre(t, "P24.2: the epoch 0", n, "a", "b")
	if n.Left() != 0 || n.Serves("a") {
		t.Error("P24.2: a lease of the epoch 0")
	}
}

// P24.2: MCommit: of a greater epoch adopted; else nothing.
func TestCommit(t *testing.T) {
	n, d := member(t, 1, 7, 1, 2)
	key := keyOf(1, 0, 1, 2)
	fill(t, n, key)
	for _, m := range []api.Msg{commit(1, 6, 1), commit(1, 0, 1), commit(1, 7, 1), commit(1, 8), commit(2, 8, 1), commit(1, 8, 2, 1), commit(1, -8, 1), commit(1, api.MaxNum+1, 1)} {
		is(t, "P24.2: "+told(m), n.Step(m))
		ringIs(t, "P24.2: "+told(m), n, 7, 1, 2)
		if !n.Serves(key) {
			t.Errorf("P24.2: %s: it does not serve", told(m))
		}
		keysAre(t, "P24.2: "+told(m), n, key)
	}
	is(t, "P24.2: MCommit", n.Step(commit(1, 8, 1)))
	ringIs(t, "P24.2: MCommit", n, 8, 1)
	metaIs(t, "P24.2: MCommit", n, 8, 0, false)
	keysAre(t, "P24.2: MCommit: wiped", n)
	if n.Left() != 0 || n.Serves(key) {
		t.Error("P24.2: MCommit: the lease stays")
	}
	// it goes, and with it that it was ever of a greater epoch
	if !n.Take(0, 3) {
		t.Error("P24.2: MCommit: the lease knows of an elder epoch")
	}
	n, _ = again(t, n, 1, d)
	metaIs(t, "P24.2: behind a crash", n, 8, 0, false)
	keysAre(t, "P24.2: behind a crash", n)
}

// To adopt what is prepared: the cache stays, but what the ring does not give to the node goes. What else was prepared, or nothing: all go.
func TestAdoptPrepared(t *testing.T) {
	stays, goes, comes := mover(1, 1, 0, two, all3), mover(1, 3, 0, two, all3), mover(2, 3, 0, two, all3)
	for _, kind := range []func(int, int64, int64, []int, []int) api.Msg{prepare, freeze} {
		for _, epoch := range []int64{9, 8, 10} {
			n, d := member(t, 1, 7, 1, 2)
			fill(t, n, stays, goes)
			n.Step(kind(1, 9, 7, two, all3))
			fill(t, n, comes)
			is(t, "P24.2: MCommit", n.Step(commit(1, epoch, 1, 2, 3)))
			ringIs(t, "P24.2: MCommit", n, epoch, 1, 2, 3)
			metaIs(t, "P24.2: MCommit", n, epoch, 0, false)
			want := []string{}
			if epoch == 9 {
				want = []string{stays}
			}
			keysAre(t, fmt.Sprint("P24.2: MCommit of ", epoch), n, want...)
			is(t, "P24.1: the moves are gone", n.Beat(), renew(1, 0, epoch, 0))
			is(t, "P24.2: the moves are gone", n.Step(have(3, 1, 9, boot+1, 0, 1)))
			n, _ = again(t, n, 1, d)
			keysAre(t, "P24.2: behind a crash", n, want...)
			metaIs(t, "P24.2: behind a crash", n, epoch, 0, false)
		}
	}
}

// To adopt: asks that wait for another node are told ErrBusy by their numbers, whoever asked; reads wait on, and nothing is put for them.
func TestAdoptAsks(t *testing.T) {
	for _, m := range []api.Msg{commit(1, 8, 1), grant(1, 0, 8, 1), prepare(1, 9, 8, one, one), freeze(1, 9, 8, one, one)} {
		n, _ := member(t, 1, 7, 1, 2)
		mine, other := keyOf(1, 0, 1, 2), keyOf(2, 0, 1, 2)
		n.Ask(30, api.OGet, other)
		n.Ask(1, api.OGet, mine)
		n.Ask(20, api.OKill, other)
		n.Step(asks(3, 1, 5, api.OGet, other, 7))
		n.Step(asks(2, 1, 6, api.OGet, mine, 7))
		n.Ask(40, api.OGet, other)
		n.Step(answers(2, 1, boot+2, api.OK, api.Item{}))
		want := []any{answers(1, 3, 5, api.ErrBusy, api.Item{}), refused(30, api.OGet, other, api.ErrBusy), refused(40, api.OGet, other, api.ErrBusy)}
		switch m.Kind {
		case api.MPrepare:
			want = append(want, prepared(1, 9, true))
		case api.MFreeze:
			want = append(want, frozen(1, 9))
		}
		is(t, "P24.2: to adopt", n.Step(m), want...)
		is(t, "P24.2: to adopt: nobody waits", n.Step(answers(2, 1, boot+1, api.OK, item(other))))
		readsAre(t, "P24.2: to adopt", n, mine, mine)
		n.Step(grant(1, 0, 8, 1))
		// tokens of behind it are others than those that wait
		for i := range 5 {
			n.Ask(int64(i), api.OGet, fmt.Sprint("new", i))
		}
		is(t, "P24.2: an elder read", n.Read(0, "x", true), got(1, mine, "x"))
		is(t, "P24.2: an elder read", n.Read(0, "x", true), answers(1, 2, 6, api.OK, api.Item{Key: mine, Val: "x"}))
		keysAre(t, "P24.2: an elder read is not put", n)
		for i := range 5 {
			is(t, "P24.2: a new read", n.Read(0, "y", true), got(int64(i), fmt.Sprint("new", i), "y"))
		}
		if len(n.Keys()) != 5 {
			t.Errorf("P24.2: new reads: %v", n.Keys())
		}
		n.Tick(60)
		if o := n.Beat(); len(o.Replies) != 0 {
			t.Errorf("P24.2: told twice: %s", tell(o))
		}
		n.Step(grant(1, 60, 10, 1, 2))
		is(t, "P24.3: numbers go on", n.Ask(1, api.OGet, other), asks(1, 2, boot+5, api.OGet, other, 10))
	}
}

// P24.2: MPrepare and MFreeze that say nothing.
func TestPrepareNothing(t *testing.T) {
	n, d := member(t, 1, 7, 1, 2)
	stays := mover(1, 1, 0, two, all3)
	fill(t, n, stays)
	n.Step(prepare(1, 10, 7, two, all3))
	calls := d.Calls()
	for _, kind := range []func(int, int64, int64, []int, []int) api.Msg{prepare, freeze} {
		for _, m := range []api.Msg{
			kind(1, 7, 7, two, all3), kind(1, 6, 6, two, all3), kind(1, 7, 6, two, all3), kind(1, 0, 0, two, all3), // not above its epoch
			kind(1, 9, 7, two, all3), kind(1, 8, 7, two, all3), kind(1, 9, 8, two, all3), // below its Ready
			kind(1, 10, 6, two, all3), kind(1, 11, 6, two, all3), kind(1, 11, 0, two, all3), // Base below its epoch
			kind(1, 10, 10, two, all3), kind(1, 10, 11, two, all3), kind(1, 11, 11, two, all3), kind(1, 11, api.MaxNum, two, all3), // not below P
			kind(1, 11, 7, nil, all3), kind(1, 11, 7, two, nil), kind(1, 11, 8, []int{}, all3), kind(1, 11, 8, two, []int{}), // none
			kind(2, 11, 7, two, all3), kind(0, 11, 7, two, all3), // to another
			kind(1, 11, 7, []int{2, 1}, all3), kind(1, 11, 7, two, []int{6}), kind(1, api.MaxNum+1, 7, two, all3), kind(1, 11, -1, two, all3), // that may not be
		} {
			is(t, "P24.2: "+told(m), n.Step(m))
			metaIs(t, "P24.2: "+told(m), n, 7, 10, false)
			ringIs(t, "P24.2: "+told(m), n, 7, 1, 2)
		}
	}
	keysAre(t, "P24.2: nothing", n, stays)
	if d.Calls() != calls || !n.Serves(stays) {
		t.Error("P24.2: nothing, and something was written")
	}
	is(t, "P24.1: still prepared", n.Beat(), renew(1, 0, 7, 10), items(1, 3, 10, boot+1, 0, 0))
}

// P24.2: MPrepare: an Out for each Dst of what goes, by Dst rising, and an In for each Src of what comes; what the plan brings is dropped, nothing else is.
func TestPrepare(t *testing.T) {
	old, members := []int{2, 3}, []int{1, 3, 4, 5}
	n, _ := member(t, 2, 7, old...)
	var goes [6]string
	for _, dst := range members {
		goes[dst] = mover(2, dst, 0, old, members)
		fill(t, n, goes[dst])
	}
	n.Kill("a")
	m := prepare(2, 9, 7, old, members)
	next := []api.Msg{}
	for _, dst := range members {
		next = append(next, items(2, dst, 9, boot+1, 0, 1, item(goes[dst])))
	}
	is(t, "P24.2: MPrepare", n.Step(m), next, prepared(2, 9, false))
	metaIs(t, "P24.2: MPrepare", n, 7, 9, false)
	is(t, "P24.1: each Out's Next", n.Beat(), renew(2, 0, 7, 9), next)
	is(t, "P24.2: MPrepare again: no Out is new", n.Step(m), prepared(2, 9, false))
	for _, dst := range members {
		if !n.Serves(goes[dst]) {
			t.Errorf("P24.2: MPrepare: it does not serve %s", goes[dst])
		}
	}
	keysAre(t, "P24.2: what goes stays till then", n, goes[1], goes[3], goes[4], goes[5])
	for i, dst := range []int{4, 1, 5, 3} {
		// to another boot: a new stream
		next := items(2, dst, 9, boot+2, 7, 1, item(goes[dst]))
		is(t, "P24.2: MHave", n.Step(have(dst, 2, 9, boot+1, 7, 0)), next)
		is(t, "P24.2: MHave of another epoch", n.Step(have(dst, 2, 8, boot+2, 7, 1)))
		is(t, "P24.2: MHave of what did not come", n.Step(have(dst, 2, 9, boot+2, 7, 2)))
		if i < 3 {
			is(t, "P24.2: MHave", n.Step(have(dst, 2, 9, boot+2, 7, 1)))
			is(t, "P24.2: not all are Sent", n.Step(m), prepared(2, 9, false))
			continue
		}
		is(t, "P24.2: all are Sent", n.Step(have(dst, 2, 9, boot+2, 7, 1)), prepared(2, 9, true))
	}
	is(t, "P24.2: MPrepare again", n.Step(m), prepared(2, 9, true))
	is(t, "P24.1: nothing is to be sent", n.Beat(), renew(2, 0, 7, 9))
	is(t, "P24.2: of who takes nothing", n.Step(have(2, 2, 9, boot+2, 7, 1)))
	is(t, "P24.2: of who takes nothing", n.Step(have(0, 2, 9, boot+2, 7, 1)))
}

// P24.2: who gives nothing is prepared at once; what it has of what comes is dropped, whatever the rest is.
func TestPrepareDrops(t *testing.T) {
	old, members := all3, []int{1, 3}
	n, d := member(t, 1, 7, old...)
	mine, comes, others := mover(1, 1, 0, old, members), mover(2, 1, 0, old, members), mover(2, 3, 0, old, members)
	third := mover(3, 3, 0, old, members)
	fill(t, n, mine, comes, others, third)
	is(t, "P24.2: MPrepare", n.Step(prepare(1, 9, 7, old, members)), prepared(1, 9, true))
	keysAre(t, "P24.2: MPrepare: what comes is dropped", n, mine, others, third)
	fill(t, n, comes)
	is(t, "P24.2: MPrepare again", n.Step(prepare(1, 9, 7, old, members)), prepared(1, 9, true))
	keysAre(t, "P24.2: MPrepare again: nothing is dropped", n, mine, comes, others, third)
	n, _ = again(t, n, 1, d)
	is(t, "P24.2: MPrepare behind a start", n.Step(prepare(1, 9, 7, old, members)), prepared(1, 9, true))
	is(t, "P24.2: MFreeze behind a start", n.Step(freeze(1, 9, 7, old, members)), frozen(1, 9))
	keysAre(t, "P24.2: behind a start: nothing is dropped", n, mine, comes, others, third)
	ringIs(t, "P24.2: Base is its epoch: no ring by that", n, 0)
	is(t, "P24.2: MPrepare of a greater one", n.Step(prepare(1, 10, 7, old, members)), prepared(1, 10, true))
	keysAre(t, "P24.2: of a greater one, without a ring", n, mine, others, third)
	n.Step(grant(1, 0, 7, old...))
	keysAre(t, "P24.2: MGrant: something is prepared", n, mine, others, third)
	is(t, "P24.2: MPrepare of a greater one", n.Step(freeze(1, 11, 7, old, members)), frozen(1, 11))
	keysAre(t, "P24.2: given up with a ring", n, mine)
}

// P24.2: Base above its epoch: (Base, Old) is adopted first; if that is what is prepared, warm.
func TestPrepareAdopts(t *testing.T) {
	stays, goes, comes := mover(1, 1, 0, two, all3), mover(1, 3, 0, two, all3), mover(2, 2, 0, two, all3)
	for _, kind := range []func(int, int64, int64, []int, []int) api.Msg{prepare, freeze} {
		n, _ := made(t, 1)
		fill(t, n, stays, goes, comes)
		o := n.Step(kind(1, 9, 7, two, all3))
		want := []any{items(1, 3, 9, boot+1, 0, 0)}
		if o.Msgs[len(o.Msgs)-1].Kind == api.MPrepared {
			want = append(want, prepared(1, 9, false))
		}
		is(t, "P24.2: adopted first", o, want...)
		ringIs(t, "P24.2: adopted first", n, 7, 1, 2)
		keysAre(t, "P24.2: adopted first", n)
		if n.Meta().Ready != 9 || n.Serves(stays) {
			t.Errorf("P24.2: adopted first: %v", n.Meta())
		}
	}
	// what is prepared is Base: it has been committed, and this node has not heard of it
	n, _ := member(t, 1, 7, 1, 2)
	fill(t, n, stays, goes)
	n.Step(freeze(1, 8, 7, two, all3))
	fill(t, n, comes)
	is(t, "P24.2: Base is what is prepared", n.Step(prepare(1, 9, 8, all3, two)), prepared(1, 9, true))
	ringIs(t, "P24.2: Base is what is prepared", n, 8, 1, 2, 3)
	metaIs(t, "P24.2: Base is what is prepared", n, 8, 9, false)
	keysAre(t, "P24.2: Base is what is prepared: warm", n, stays)
	if n.Left() != 0 {
		t.Error("P24.2: Base is what is prepared: the lease stays")
	}
	// of the same P, but from a Base above its epoch: prepared anew
	n, _ = member(t, 1, 7, 1, 2)
	n.Step(prepare(1, 9, 7, two, all3))
	fill(t, n, stays, goes)
	is(t, "P24.2: the same P of another Base", n.Step(prepare(1, 9, 8, two, all3)), items(1, 3, 9, boot+1, 0, 0), prepared(1, 9, false))
	ringIs(t, "P24.2: the same P of another Base", n, 8, 1, 2)
	metaIs(t, "P24.2: the same P of another Base", n, 8, 9, false)
	keysAre(t, "P24.2: the same P of another Base: wiped", n)
}

// P24.2: of a P above its Ready what was prepared is given up: its moves, what came for it, and that it is frozen.
func TestPrepareGreater(t *testing.T) {
	old, first, second := two, one, all3
	came, stays, goes := mover(2, 1, 0, old, first), mover(1, 1, 0, old, second), mover(1, 3, 0, old, second)
	for _, kind := range []func(int, int64, int64, []int, []int) api.Msg{prepare, freeze} {
		n, d := member(t, 1, 7, old...)
		fill(t, n, stays, goes)
		is(t, "P24.2: the first", n.Step(kind(1, 8, 7, old, first)), map[int]api.Msg{api.MPrepare: prepared(1, 8, true), api.MFreeze: frozen(1, 8)}[kind(1, 8, 7, old, first).Kind])
		is(t, "P24.2: MItems", n.Step(items(2, 1, 8, boot+1, 1, 0, item(came))), have(1, 2, 8, boot+1, 1, 1))
		keysAre(t, "P24.2: MItems", n, stays, goes, came)
		is(t, "P24.2: a greater one", n.Step(prepare(1, 9, 7, old, second)), items(1, 3, 9, boot+1, 0, 0, item(goes)), prepared(1, 9, false))
		metaIs(t, "P24.2: a greater one", n, 7, 9, false)
		keysAre(t, "P24.2: a greater one: given up", n, stays, goes)
		is(t, "P24.2: of the one that was given up", n.Step(items(2, 1, 8, boot+2, 1, 0, item(came))))
		is(t, "P24.2: of the one that was given up", n.Step(kind(1, 8, 7, old, first)))
		is(t, "P24.2: of the one that was given up", n.Step(abort(1, 8)))
		if !n.Serves(goes) {
			t.Error("P24.2: a greater one: frozen")
		}
		n, _ = again(t, n, 1, d)
		metaIs(t, "P24.2: a greater one, behind a crash", n, 7, 9, false)
	}
}

// P24.2: MFreeze: what goes is not served any more, what stays is; MFrozen when all that goes is known there.
func TestFreeze(t *testing.T) {
	n, d := member(t, 1, 7, 1, 2)
	stays, goes := mover(1, 1, 0, two, all3), mover(1, 3, 0, two, all3)
	fill(t, n, stays, goes)
	n.Step(prepare(1, 9, 7, two, all3))
	n.Step(have(3, 1, 9, boot+1, 4, 0))
	n.Ask(1, api.OKill, goes)
	is(t, "P24.2: MHave", n.Step(have(3, 1, 9, boot+2, 4, 1)), prepared(1, 9, true))
	m := freeze(1, 9, 7, two, all3)
	is(t, "P24.2: MFreeze: not Done", n.Step(m))
	metaIs(t, "P24.2: MFreeze", n, 7, 9, true)
	if n.Serves(goes) || !n.Serves(stays) || n.Serves(keyOf(2, 0, 1, 2)) {
		t.Error("P24.2: MFreeze: Serves")
	}
	is(t, "P24.3: frozen: what goes", n.Ask(2, api.OGet, goes), refused(2, api.OGet, goes, api.ErrBusy))
	is(t, "P24.3: frozen: what goes", n.Ask(3, api.OKill, goes), refused(3, api.OKill, goes, api.ErrBusy))
	is(t, "P24.3: frozen: what goes", n.Step(asks(2, 1, 4, api.OGet, goes, 7)), answers(1, 2, 4, api.ErrBusy, api.Item{}))
	is(t, "P24.3: frozen: what stays", n.Ask(5, api.OGet, stays), got(5, stays, "v "+stays))
	marks := api.Msg{Kind: api.MMarks, From: 1, To: 3, Epoch: 9, Tick: 4, Id: boot + 2, Marks: []api.Mark{{Seq: 1, Key: goes}}}
	is(t, "P24.1: marks", n.Beat(), renew(1, 0, 7, 9), marks)
	is(t, "P24.2: MPrepare of who is frozen", n.Step(prepare(1, 9, 7, two, all3)), prepared(1, 9, true))
	metaIs(t, "P24.2: MPrepare of who is frozen", n, 7, 9, true)
	is(t, "P24.2: MHave of who is frozen: not Done", n.Step(have(3, 1, 9, boot+2, 4, 1)))
	is(t, "P24.2: MKnow of another epoch", n.Step(know(3, 1, 8, boot+2, 4, 1)))
	is(t, "P24.2: MKnow of another node", n.Step(know(2, 1, 9, boot+2, 4, 1)))
	is(t, "P24.2: MKnow: Done", n.Step(know(3, 1, 9, boot+2, 4, 1)), frozen(1, 9))
	is(t, "P24.2: MFreeze again", n.Step(m), frozen(1, 9))
	is(t, "P24.1: Done", n.Beat(), renew(1, 0, 7, 9))
	// what is killed behind it is none of what goes; MFreeze again: it is to be known, too
	is(t, "P24.3: frozen: what stays", n.Ask(6, api.OKill, stays), killed(6, stays))
	is(t, "P24.1: still Done", n.Beat(), renew(1, 0, 7, 9))
	is(t, "P24.2: MFreeze again: all Outs Freeze", n.Step(m))
	marks.Seq, marks.Marks = 1, []api.Mark{{Seq: 2, Key: stays}}
	is(t, "P24.1: marks", n.Beat(), renew(1, 0, 7, 9), marks)
	is(t, "P24.2: MKnow: Done", n.Step(know(3, 1, 9, boot+2, 4, 2)), frozen(1, 9))
	// behind a start it serves nothing till it is told of the plan again
	n, _ = again(t, n, 1, d)
	n.Step(grant(1, 0, 7, 1, 2))
	if n.Serves(stays) || n.Serves(goes) {
		t.Error("P24: frozen behind a start: it serves, and does not know the plan")
	}
	is(t, "P24.2: a late answer: no moves are known", n.Step(know(3, 1, 9, boot+2, 4, 2)))
	is(t, "P24.2: MPrepare behind a start", n.Step(prepare(1, 9, 7, two, all3)), items(1, 3, 9, 2*boot+1, 0, 2), prepared(1, 9, false))
	if !n.Serves(stays) || n.Serves(goes) {
		t.Error("P24: frozen behind a start: it knows the plan")
	}
	is(t, "P24.2: frozen, but the Outs are not", n.Step(have(3, 1, 9, 2*boot+1, 0, 1)))
	is(t, "P24.2: MFreeze behind a start", n.Step(m), frozen(1, 9))
}

// P24.2: MFreeze of what was not prepared prepares it, each new Out's Next ahead of the answer.
func TestFreezeAtOnce(t *testing.T) {
	n, d := member(t, 2, 7, 1, 2)
	key := mover(2, 1, 0, two, one)
	fill(t, n, key)
	is(t, "P24.2: MFreeze at once", n.Step(freeze(2, 9, 7, two, one)), items(2, 1, 9, boot+1, 0, 0, item(key)))
	metaIs(t, "P24.2: MFreeze at once", n, 7, 9, true)
	if n.Serves(key) || len(d.Loose()) != 0 {
		t.Error("P24.2: MFreeze at once")
	}
	is(t, "P24.2: MFreeze again", n.Step(freeze(2, 9, 7, two, one)))
	is(t, "P24.2: MHave: Sent is Done, where no mark is lacking", n.Step(have(1, 2, 9, boot+1, 0, 1)), frozen(2, 9))
	// who gives nothing
	n, _ = member(t, 1, 7, 1, 2)
	is(t, "P24.2: MFreeze: no Outs", n.Step(freeze(1, 9, 7, two, one)), frozen(1, 9))
	if !n.Serves(mover(1, 1, 0, two, one)) || n.Serves(key) {
		t.Error("P24.2: MFreeze: what comes is not served yet")
	}
	// the same members: nothing moves
	n, _ = member(t, 1, 7, 1, 2)
	is(t, "P24.2: MPrepare: nothing moves", n.Step(prepare(1, 9, 7, two, two)), prepared(1, 9, true))
	is(t, "P24.2: MFreeze: nothing moves", n.Step(freeze(1, 9, 7, two, two)), frozen(1, 9))
	if !n.Serves(keyOf(1, 0, 1, 2)) {
		t.Error("P24.2: MFreeze: nothing moves")
	}
	// who is none of them
	n, _ = member(t, 5, 7, 1, 2)
	is(t, "P24.2: MFreeze of others", n.Step(freeze(5, 9, 7, two, one)), frozen(5, 9))
}

// P24.2: MAbort of its Ready: given up; of another number: nothing.
func TestAbort(t *testing.T) {
	old, members := two, []int{1, 3}
	stays, goes, came := mover(1, 1, 0, old, members), mover(1, 3, 0, old, members), mover(2, 1, 0, old, members)
	for _, kind := range []func(int, int64, int64, []int, []int) api.Msg{prepare, freeze} {
		n, d := member(t, 1, 7, old...)
		fill(t, n, stays, goes)
		n.Step(kind(1, 9, 7, old, members))
		n.Step(items(2, 1, 9, boot+1, 1, 0, item(came)))
		was := n.Meta()
		for _, m := range []api.Msg{abort(1, 8), abort(1, 10), abort(1, 0), abort(1, 7), abort(2, 9), abort(1, -9)} {
			is(t, "P24.2: "+told(m), n.Step(m))
			if n.Meta() != was {
				t.Errorf("P24.2: %s: %v", told(m), n.Meta())
			}
		}
		keysAre(t, "P24.2: another MAbort", n, stays, goes, came)
		is(t, "P24.2: MAbort", n.Step(abort(1, 9)))
		metaIs(t, "P24.2: MAbort", n, 7, 0, false)
		keysAre(t, "P24.2: MAbort: what came is dropped", n, stays, goes)
		is(t, "P24.1: MAbort: no moves", n.Beat(), renew(1, 0, 7, 0))
		is(t, "P24.2: MAbort: no moves", n.Step(have(3, 1, 9, boot+1, 0, 1)))
		is(t, "P24.2: MAbort: no moves", n.Step(items(2, 1, 9, boot+2, 1, 0, item(came))))
		if !n.Serves(stays) || !n.Serves(goes) || n.Serves(came) {
			t.Error("P24.2: MAbort: Serves")
		}
		is(t, "P24.2: MAbort again", n.Step(abort(1, 9)))
		n, d = again(t, n, 1, d)
		metaIs(t, "P24.2: MAbort, behind a crash", n, 7, 0, false)
		keysAre(t, "P24.2: MAbort, behind a crash", n, stays, goes)
		// it may be prepared once more
		if o := n.Step(kind(1, 9, 7, old, members)); len(o.Msgs) == 0 || n.Meta() != (api.Meta{Boot: 2, Epoch: 7, Ready: 9, Frozen: was.Frozen}) {
			t.Errorf("P24.2: prepared once more: %s", tell(o))
		}
		// without a ring nothing is dropped by it, till it is told
		fill(t, n, came)
		n, _ = again(t, n, 1, d)
		n.Step(abort(1, 9))
		metaIs(t, "P24.2: MAbort without a ring", n, 7, 0, false)
		keysAre(t, "P24.2: MAbort without a ring", n, stays, goes, came)
		n.Step(grant(1, 0, 7, old...))
		keysAre(t, "P24.2: and the ring behind it", n, stays, goes)
	}
	// nothing is prepared: nothing is given up
	n, _ := member(t, 1, 7, old...)
	fill(t, n, came)
	for _, epoch := range []int64{0, 7, 8} {
		is(t, "P24.2: MAbort of nothing", n.Step(abort(1, epoch)))
	}
	keysAre(t, "P24.2: MAbort of nothing", n, came)
}

// P24.2: MItems, MMarks of its Ready: the In of that Src steps.
func TestIns(t *testing.T) {
	old, members := all3, one
	fromTwo, fromThree, mine := mover(2, 1, 0, old, members), mover(3, 1, 0, old, members), mover(1, 1, 0, old, members)
	n, d := member(t, 1, 7, old...)
	fill(t, n, mine)
	is(t, "P24.2: nothing is prepared", n.Step(items(2, 1, 9, boot+1, 1, 0, item(fromTwo))))
	n.Step(prepare(1, 9, 7, old, members))
	for _, m := range []api.Msg{items(2, 1, 8, boot+1, 1, 0, item(fromTwo)), items(2, 1, 10, boot+1, 1, 0, item(fromTwo)), items(2, 1, 7, boot+1, 1, 0, item(fromTwo)), items(2, 1, 0, boot+1, 1, 0, item(fromTwo)), items(4, 1, 9, boot+1, 1, 0, item(fromTwo)), items(0, 1, 9, boot+1, 1, 0, item(fromTwo)), items(2, 3, 9, boot+1, 1, 0, item(fromTwo))} {
		is(t, "P24.2: "+told(m), n.Step(m))
	}
	keysAre(t, "P24.2: nothing", n, mine)
	is(t, "P24.2: MItems to another boot", n.Step(items(2, 1, 9, boot+1, 0, 0, item(fromTwo))), have(1, 2, 9, boot+1, 1, 0))
	is(t, "P24.2: MItems", n.Step(items(2, 1, 9, boot+2, 1, 5, item(fromTwo), item(mine), item(fromThree))), have(1, 2, 9, boot+2, 1, 1))
	keysAre(t, "P24.2: MItems of two", n, mine, fromTwo)
	is(t, "P24.2: MItems", n.Step(items(3, 1, 9, boot+1, 1, 8, item(fromThree))), have(1, 3, 9, boot+1, 1, 1))
	keysAre(t, "P24.2: MItems of three", n, mine, fromTwo, fromThree)
	if len(d.Loose()) != 0 {
		t.Error("P24.2: MItems: not flushed")
	}
	marks := api.Msg{Kind: api.MMarks, From: 2, To: 1, Epoch: 9, Tick: 1, Id: boot + 2, Seq: 5, Marks: []api.Mark{{Seq: 6, Key: fromTwo}, {Seq: 7, Key: fromThree}}}
	is(t, "P24.2: MMarks", n.Step(marks), know(1, 2, 9, boot+2, 1, 7))
	keysAre(t, "P24.2: MMarks", n, mine, fromThree)
	marks.Epoch = 8
	is(t, "P24.2: MMarks of another epoch", n.Step(marks))
	n, _ = again(t, n, 1, d)
	is(t, "P24.2: behind a start no moves are known", n.Step(items(3, 1, 9, boot+1, 1, 8, item(fromThree))))
	is(t, "P24.2: told again", n.Step(prepare(1, 9, 7, old, members)), prepared(1, 9, true))
	is(t, "P24.2: another boot", n.Step(items(3, 1, 9, boot+1, 1, 8, item(fromThree))), have(1, 3, 9, boot+1, 2, 0))
	keysAre(t, "P24.2: what came is there", n, mine, fromThree)
	n.Step(commit(1, 9, 1))
	keysAre(t, "P24.2: MCommit", n, mine, fromThree)
}

// A key is served by the ring, the lease, and what is frozen.
func TestServes(t *testing.T) {
	stays, goes, comes := mover(1, 1, 0, two, all3), mover(1, 3, 0, two, all3), mover(2, 3, 0, two, all3)
	n, _ := made(t, 1)
	for _, x := range []struct {
		what        string
		do          func(n *node.Node)
		stays, goes bool
	}{
		{"no ring", func(n *node.Node) {}, false, false},
		{"a lease without a ring", func(n *node.Node) { n.Take(0, 7) }, false, false},
		{"a ring", func(n *node.Node) { n.Step(commit(1, 7, 1, 2)) }, false, false},
		{"a lease", func(n *node.Node) { n.Step(grant(1, 0, 7, 1, 2)) }, true, true},
		{"prepared", func(n *node.Node) { n.Step(prepare(1, 9, 7, two, all3)) }, true, true},
		{"frozen", func(n *node.Node) { n.Step(freeze(1, 9, 7, two, all3)) }, true, false},
		{"it is over", func(n *node.Node) { n.Tick(20) }, false, false},
		{"granted anew", func(n *node.Node) { n.Step(grant(1, 1, 7, 1, 2)) }, true, false},
		{"given up", func(n *node.Node) { n.Step(abort(1, 9)) }, true, true},
		{"dropped", func(n *node.Node) { n.Lease.Drop() }, false, false},
		{"a lease of another epoch", func(n *node.Node) { n.Take(20, 8) }, false, false},
		{"the next epoch", func(n *node.Node) { n.Step(grant(1, 20, 9, 1, 2, 3)) }, true, false},
		{"an epoch without it", func(n *node.Node) { n.Step(grant(1, 20, 10, 2, 3)) }, false, false},
		{"alone", func(n *node.Node) { n.Step(grant(1, 20, 11, 1)) }, true, true},
	} {
		x.do(n)
		if n.Serves(stays) != x.stays || n.Serves(goes) != x.goes || n.Serves(comes) && n.Ring().Of(comes) != 1 {
			t.Errorf("P24: %s: %v, %v", x.what, n.Serves(stays), n.Serves(goes))
		}
	}
}

// Other kinds of messages say nothing to a node, and whatever may not be.
func TestOtherKinds(t *testing.T) {
	n, d := member(t, 1, 7, 1, 2)
	n.Step(prepare(1, 9, 7, two, all3))
	was, calls := n.Meta(), d.Calls()
	for _, kind := range []int{api.MRenew, api.MPrepared, api.MFrozen, 0, 15, -1, 1 << 40} {
		for _, from := range []int{0, 2, 3} {
			for _, epoch := range []int64{0, 7, 9, 10} {
				is(t, fmt.Sprint("P24.2: kind ", kind), n.Step(api.Msg{Kind: kind, From: from, To: 1, Epoch: epoch, Seq: 9, Last: true, Members: two, Base: 7, Old: two}))
			}
		}
	}
	for kind := range 16 {
		is(t, fmt.Sprint("P24.2: kind ", kind, " from itself"), n.Step(api.Msg{Kind: kind, From: 1, To: 1, Epoch: 9, Members: two, Base: 7, Old: two}))
		is(t, fmt.Sprint("P24.2: kind ", kind, " to 0"), n.Step(api.Msg{Kind: kind, From: 1, Epoch: 9, Members: two, Base: 7, Old: two}))
		is(t, fmt.Sprint("P24.2: kind ", kind, " that may not be"), n.Step(api.Msg{Kind: kind, To: 1, Epoch: 9, Members: two, Base: 7, Old: two, N: -1}))
	}
	if n.Meta() != was || d.Calls() != calls {
		t.Errorf("P24.2: other kinds: %v", n.Meta())
	}
}
