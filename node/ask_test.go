package node_test

import (
	"fmt"
	"math"
	"strings"
	"testing"

	"icehouse/api"
	"icehouse/node"
)

// bad are asks that may not be.
var bad = []struct {
	op  int
	key string
}{
	{0, "a"}, {3, "a"}, {-1, "a"}, {math.MaxInt, "a"}, {math.MinInt, "a"},
	{api.OGet, ""}, {api.OKill, ""}, {api.OGet, strings.Repeat("k", 41)}, {api.OKill, strings.Repeat("k", 1000)}, {0, ""},
}

// P24.3: ErrForm goes first, whether there is a ring or not; the Reply has what was asked.
func TestAskErrForm(t *testing.T) {
	fresh, _ := made(t, 1)
	n, _ := member(t, 1, 7, 1)
	over, _ := member(t, 1, 7, 1)
	over.Tick(20)
	for _, x := range bad {
		for _, id := range []int64{0, 1, -5, math.MaxInt64, math.MinInt64} {
			is(t, "P24.3: no ring", fresh.Ask(id, x.op, x.key), refused(id, x.op, x.key, api.ErrForm))
			is(t, "P24.3: it serves", n.Ask(id, x.op, x.key), refused(id, x.op, x.key, api.ErrForm))
			is(t, "P24.3: no lease", over.Ask(id, x.op, x.key), refused(id, x.op, x.key, api.ErrForm))
		}
	}
	if len(n.Reads()) != 0 || n.Seq() != 0 {
		t.Error("P24.3: ErrForm, and something was done")
	}
	long := strings.Repeat("k", 40)
	is(t, "P24.3: no ring", fresh.Ask(1, api.OGet, long), refused(1, api.OGet, long, api.ErrBusy))
	is(t, "P24.3: the longest key", n.Ask(1, api.OKill, long), killed(1, long))
	is(t, "P24.3: the longest key", n.Ask(2, api.OGet, long))
	is(t, "P24.3: any bytes", n.Ask(3, api.OGet, "\xff\x00"))
	readsAre(t, "P24.3", n, long, "\xff\x00")
	is(t, "P24.3: any bytes", n.Read(1, "\x00\xfe", true), got(3, "\xff\x00", "\x00\xfe"))
	is(t, "P24.3: any bytes", n.Ask(4, api.OGet, "\xff\x00"), got(4, "\xff\x00", "\x00\xfe"))
}

// P24.3: ErrBusy: there is no ring, or the node does not serve what is its own. What is another's is asked of that one, lease or not.
func TestAskBusy(t *testing.T) {
	mine, other := keyOf(1, 0, 1, 2), keyOf(2, 0, 1, 2)
	n, _ := made(t, 1)
	fill(t, n, mine)
	for _, op := range []int{api.OGet, api.OKill} {
		is(t, "P24.3: no ring", n.Ask(1, op, mine), refused(1, op, mine, api.ErrBusy))
		is(t, "P24.3: no ring", n.Ask(2, op, other), refused(2, op, other, api.ErrBusy))
	}
	n.Step(commit(1, 7, 1, 2))
	fill(t, n, mine)
	is(t, "P24.3: no lease", n.Ask(3, api.OGet, mine), refused(3, api.OGet, mine, api.ErrBusy))
	is(t, "P24.3: no lease", n.Ask(4, api.OKill, mine), refused(4, api.OKill, mine, api.ErrBusy))
	is(t, "P24.3: no lease, another's", n.Ask(5, api.OKill, other), asks(1, 2, 1<<20+1, api.OKill, other, 7))
	n.Step(grant(1, 0, 7, 1, 2))
	is(t, "P24.3: a lease", n.Ask(6, api.OGet, mine), got(6, mine, "v "+mine))
	is(t, "P24.3: a lease, another's", n.Ask(7, api.OGet, other), asks(1, 2, 1<<20+2, api.OGet, other, 7))
	n.Tick(19)
	is(t, "P24.3: a lease", n.Ask(8, api.OGet, mine), got(8, mine, "v "+mine))
	n.Tick()
	is(t, "P24.3: it is over", n.Ask(9, api.OGet, mine), refused(9, api.OGet, mine, api.ErrBusy))
	is(t, "P24.3: it is over", n.Ask(9, api.OKill, mine), refused(9, api.OKill, mine, api.ErrBusy))
	keysAre(t, "P24.3: not killed", n, mine)
	if n.Seq() != 0 {
		t.Errorf("P24.3: the journal is at %d", n.Seq())
	}
}

// P24.3: OGet: an entry that is live is told at once; one that is over is read anew.
func TestGet(t *testing.T) {
	n, d := member(t, 1, 7, 1)
	n.Put(api.Item{Key: "a", Val: "till 10", End: 10})
	n.Put(api.Item{Key: "b"})
	n.Flush()
	n.Tick(9)
	is(t, "P24.3: live", n.Ask(1, api.OGet, "a"), got(1, "a", "till 10"))
	is(t, "P24.3: an empty value", n.Ask(2, api.OGet, "b"), got(2, "b", ""))
	n.Tick()
	is(t, "P24.3: over", n.Ask(3, api.OGet, "a"))
	readsAre(t, "P24.3: over", n, "a")
	is(t, "P24.3: read", n.Read(0, "for good", true), got(3, "a", "for good"))
	if x, ok := n.Get("a", math.MaxInt64); !ok || x != (api.Item{Key: "a", Val: "for good"}) || len(d.Loose()) != 0 {
		t.Errorf("P24.3: put %v", x)
	}
}

// P24.3: Reads stand in order, each ask for itself; Read takes the i-th.
func TestReads(t *testing.T) {
	n, d := member(t, 1, 7, 1)
	for i, key := range []string{"c", "a", "b", "a", "d"} {
		is(t, "P24.3: a read", n.Ask(int64(i), api.OGet, key))
	}
	readsAre(t, "P24.3", n, "c", "a", "b", "a", "d")
	calls := d.Calls()
	for _, i := range []int{5, -1, math.MaxInt, math.MinInt} {
		is(t, "P24.3: no such read", n.Read(i, "x", true))
	}
	readsAre(t, "P24.3: no such read", n, "c", "a", "b", "a", "d")
	if d.Calls() != calls {
		t.Error("P24.3: no such read: it was written")
	}
	is(t, "P24.3: Read(3)", n.Read(3, "second a", true), got(3, "a", "second a"))
	readsAre(t, "P24.3: Read(3)", n, "c", "a", "b", "d")
	is(t, "P24.3: put", n.Ask(9, api.OGet, "a"), got(9, "a", "second a"))
	is(t, "P24.3: Read(1)", n.Read(1, "first a", true), got(1, "a", "first a"))
	is(t, "P24.3: put again", n.Ask(9, api.OGet, "a"), got(9, "a", "first a"))
	is(t, "P24.3: Read(0)", n.Read(0, "", true), got(0, "c", ""))
	is(t, "P24.3: Read(1)", n.Read(1, "D", true), got(4, "d", "D"))
	readsAre(t, "P24.3", n, "b")
	is(t, "P24.3: the last", n.Read(0, "B", true), got(2, "b", "B"))
	is(t, "P24.3: no more", n.Read(0, "B", true))
	keysAre(t, "P24.3: put", n, "a", "b", "c", "d")
	if len(d.Loose()) != 0 {
		t.Error("P24.3: not flushed")
	}
	n.Reads()
	is(t, "P24.3: a read", n.Ask(1, api.OGet, "x"))
	is(t, "P24.3: a read", n.Ask(2, api.OGet, "y"))
	l := n.Reads()
	l[0] = "changed"
	l = append(l[:1], "z")
	readsAre(t, "P0.3: a list of its own", n, "x", "y")
	if len(l) != 2 {
		t.Errorf("P0.3: %v", l)
	}
}

// P24.3: what is read is told, put only if it has a value of at most 200 bytes.
func TestReadValues(t *testing.T) {
	for _, x := range []struct {
		val  string
		has  bool
		want string
		put  bool
	}{
		{"v", true, "v", true}, {"", true, "", true}, {"", false, "", false}, {"rest", false, "", false},
		{strings.Repeat("v", 200), true, strings.Repeat("v", 200), true},
		{strings.Repeat("v", 201), true, strings.Repeat("v", 201), false},
		{strings.Repeat("v", 5000), true, strings.Repeat("v", 5000), false},
	} {
		n, d := member(t, 1, 7, 1)
		n.Put(api.Item{Key: "a", Val: "elder", End: 1})
		n.Tick()
		n.Ask(1, api.OGet, "a")
		is(t, "P24.3: Read", n.Read(0, x.val, x.has), api.Reply{Id: 1, Op: api.OGet, Key: "a", Val: x.want, Has: x.has})
		e, ok := n.Get("a", n.Now())
		if ok != x.put || ok && (e.Val != x.val || len(d.Loose()) != 0) {
			t.Errorf("P24.3: put of %d bytes, %v: %v", len(x.val), x.has, ok)
		}
		// the token of a read that was not put is used all the same
		readsAre(t, "P24.3", n)
		is(t, "P24.3: no more", n.Read(0, "again", true))
	}
}

// P24.3: nothing is put by a token that is good no more, and nothing that the node does not serve.
func TestReadNotPut(t *testing.T) {
	old, members := []int{1}, []int{1, 2}
	goes, stays := mover(1, 2, 0, old, members), mover(1, 1, 0, old, members)
	for _, x := range []struct {
		what string
		do   func(n *node.Node)
		put  bool
	}{
		{"nothing has happened", func(n *node.Node) {}, true},
		{"another key was killed", func(n *node.Node) { n.Ask(8, api.OKill, stays) }, true},
		{"it was killed", func(n *node.Node) { n.Ask(8, api.OKill, goes) }, false},
		{"it was killed for another node", func(n *node.Node) { n.Step(asks(3, 1, 8, api.OKill, goes, 7)) }, false},
		{"the lease is over", func(n *node.Node) { n.Tick(20) }, false},
		{"the lease is over and there again", func(n *node.Node) { n.Tick(20); n.Step(grant(1, 20, 7, 1)) }, true},
		{"prepared", func(n *node.Node) { n.Step(prepare(1, 8, 7, old, members)) }, true},
		{"frozen", func(n *node.Node) { n.Step(freeze(1, 8, 7, old, members)) }, false},
		{"frozen, and given up", func(n *node.Node) { n.Step(freeze(1, 8, 7, old, members)); n.Step(abort(1, 8)) }, false},
		{"prepared, and given up", func(n *node.Node) { n.Step(prepare(1, 8, 7, old, members)); n.Step(abort(1, 8)) }, true},
		{"another epoch", func(n *node.Node) { n.Step(grant(1, 0, 8, 1)) }, false},
		{"another epoch that was prepared", func(n *node.Node) { n.Step(prepare(1, 8, 7, old, []int{1})); n.Step(grant(1, 0, 8, 1)) }, false},
	} {
		n, _ := member(t, 1, 7, 1)
		n.Ask(1, api.OGet, goes)
		x.do(n)
		is(t, "P24.3: "+x.what, n.Read(0, "read", true), got(1, goes, "read"))
		if _, ok := n.Get(goes, n.Now()); ok != x.put {
			t.Errorf("P24.3: %s: put: %v", x.what, ok)
		}
	}
	// frozen: what stays is served, but the tokens of ahead are good no more
	n, _ := member(t, 1, 7, 1)
	n.Ask(1, api.OGet, stays)
	n.Step(freeze(1, 8, 7, old, members))
	n.Ask(2, api.OGet, stays)
	is(t, "P24.2: MFreeze: tokens", n.Read(0, "ahead", true), got(1, stays, "ahead"))
	keysAre(t, "P24.2: MFreeze: tokens", n)
	is(t, "P24.2: MFreeze: tokens", n.Read(0, "behind", true), got(2, stays, "behind"))
	keysAre(t, "P24.2: MFreeze: tokens", n, stays)
}

// P24.3: OKill: the journal has it, the entry is gone, both last when it comes back, and its tokens are good no more.
func TestKill(t *testing.T) {
	n, d := member(t, 1, 7, 1)
	fill(t, n, "a", "b")
	n.Ask(1, api.OGet, "c")
	n.Ask(2, api.OGet, "c")
	n.Ask(3, api.OGet, "d")
	is(t, "P24.3: OKill", n.Ask(4, api.OKill, "a"), killed(4, "a"))
	is(t, "P24.3: OKill of what is not there", n.Ask(5, api.OKill, "c"), killed(5, "c"))
	n.Ask(6, api.OGet, "c")
	is(t, "P24.3: a token that was killed", n.Read(1, "two", true), got(2, "c", "two"))
	is(t, "P24.3: a token that was killed", n.Read(0, "one", true), got(1, "c", "one"))
	keysAre(t, "P24.3: a token that was killed", n, "b")
	is(t, "P24.3: another key's", n.Read(0, "three", true), got(3, "d", "three"))
	is(t, "P24.3: a token that was given behind", n.Read(0, "four", true), got(6, "c", "four"))
	keysAre(t, "P24.3: put", n, "b", "c", "d")
	n.Ask(7, api.OKill, "b")
	n, _ = again(t, n, 1, d)
	keysAre(t, "P24.3: behind a crash", n, "c", "d")
	if l, ok := n.Journal.Since(0, 9); !ok || fmt.Sprint(l) != "[{1 a} {2 c} {3 b}]" {
		t.Errorf("P24.3: behind a crash: %v", l)
	}
}

// P24.3: what is another's is asked of it, by numbers in order; P24.2: MAnswer: told is who asked, if it waits for that node under that Id.
func TestHandOn(t *testing.T) {
	n, _ := member(t, 1, 7, 1, 2, 3)
	two, three := keyOf(2, 0, 1, 2, 3), keyOf(3, 0, 1, 2, 3)
	const first = 1<<20 + 1
	is(t, "P24.3", n.Ask(50, api.OGet, two), asks(1, 2, first, api.OGet, two, 7))
	is(t, "P24.3", n.Ask(40, api.OKill, three), asks(1, 3, first+1, api.OKill, three, 7))
	is(t, "P24.3", n.Ask(40, api.OGet, two), asks(1, 2, first+2, api.OGet, two, 7))
	is(t, "P24.3", n.Ask(-9, api.OGet, three), asks(1, 3, first+3, api.OGet, three, 7))
	readsAre(t, "P24.3: it waits for another node", n)
	for _, m := range []api.Msg{
		answers(3, 1, first, api.OK, item(two)), answers(2, 1, first+1, api.OK, api.Item{}), answers(0, 1, first, api.OK, item(two)),
		answers(2, 1, first-1, api.OK, item(two)), answers(2, 1, first+4, api.OK, item(two)), answers(2, 1, 0, api.OK, item(two)), answers(2, 1, 1, api.OK, item(two)), answers(2, 1, api.MaxNum, api.OK, item(two)),
		answers(2, 3, first, api.OK, item(two)), answers(2, 1, first, 11, item(two)), answers(2, 1, first, -1, item(two)), answers(2, 1, first, api.OK, api.Item{Key: two, Gone: true, Val: "x"}),
	} {
		is(t, "P24.2: nobody's answer: "+told(m), n.Step(m))
	}
	is(t, "P24.2: MAnswer", n.Step(answers(2, 1, first+2, api.OK, item(two))), got(40, two, "v "+two))
	is(t, "P24.2: MAnswer again", n.Step(answers(2, 1, first+2, api.OK, item(two))))
	is(t, "P24.2: MAnswer", n.Step(answers(3, 1, first+1, api.OK, api.Item{})), killed(40, three))
	is(t, "P24.2: MAnswer of none", n.Step(answers(3, 1, first+3, api.OK, api.Item{Key: three, Gone: true})), none(-9, three))
	is(t, "P24.2: MAnswer", n.Step(answers(2, 1, first, api.OK, api.Item{Key: two})), got(50, two, ""))
	is(t, "P24.2: nobody waits", n.Step(answers(2, 1, first, api.OK, api.Item{Key: two})))
	keysAre(t, "P24.2: another's keys are not put", n)
	for err := api.ErrForm; err <= api.ErrTime; err++ {
		for _, op := range []int{api.OGet, api.OKill} {
			o := n.Ask(9, op, two)
			want := err
			if err == api.ErrStale {
				want = api.ErrBusy
			}
			is(t, "P24.2: its error", n.Step(answers(2, 1, o.Msgs[0].Id, err, item(two))), refused(9, op, two, want))
		}
	}
	o := n.Ask(9, api.OKill, two)
	is(t, "P24.2: a value is told to OGet alone", n.Step(answers(2, 1, o.Msgs[0].Id, api.OK, item(two))), killed(9, two))
}

// P24.1: who waits for another node for 60 ticks or longer is told ErrTime, once; who waits for a read is not.
func TestTime(t *testing.T) {
	n, _ := member(t, 1, 7, 1, 2)
	mine, other := keyOf(1, 0, 1, 2), keyOf(2, 0, 1, 2)
	const first = 1<<20 + 1
	n.Ask(1, api.OGet, mine)
	n.Step(asks(2, 1, 33, api.OGet, mine, 7))
	n.Ask(2, api.OGet, other)
	n.Ask(3, api.OKill, other)
	n.Ask(4, api.OGet, other)
	// of an ask that came from a node, and was handed on: that node is told
	is(t, "P24.2: MAsk as Ask", n.Step(asks(3, 1, 77, api.OGet, other, 7)), asks(1, 2, first+3, api.OGet, other, 7))
	n.Tick(1)
	n.Ask(5, api.OGet, other)
	n.Tick(58)
	is(t, "P24.1: 59 ticks", n.Beat(), renew(1, 59, 7, 0))
	is(t, "P24.2: still in time", n.Step(answers(2, 1, first+1, api.OK, api.Item{})), killed(3, other))
	n.Tick()
	is(t, "P24.1: 60 ticks", n.Beat(), renew(1, 60, 7, 0), answers(1, 3, 77, api.ErrTime, api.Item{}), refused(2, api.OGet, other, api.ErrTime), refused(4, api.OGet, other, api.ErrTime))
	is(t, "P24.1: once", n.Beat(), renew(1, 60, 7, 0))
	is(t, "P24.2: too late", n.Step(answers(2, 1, first, api.OK, item(other))))
	n.Tick(1000)
	is(t, "P24.1: longer", n.Beat(), renew(1, 1060, 7, 0), refused(5, api.OGet, other, api.ErrTime))
	readsAre(t, "P24.1: reads wait", n, mine, mine)
	is(t, "P24.1: a read", n.Read(0, "x", true), got(1, mine, "x"))
	is(t, "P24.1: a read", n.Read(0, "x", true), answers(1, 2, 33, api.OK, api.Item{Key: mine, Val: "x"}))
	keysAre(t, "P24.3: it does not serve", n)
	n.Tick(api.MaxNum)
	is(t, "P24.1: nobody waits", n.Beat(), renew(1, 1060, 7, 0))
}

// P24.2: MAsk: as Ask, but who asked is told by an MAnswer.
func TestMAsk(t *testing.T) {
	n, d := member(t, 1, 7, 1, 2)
	mine, other := keyOf(1, 0, 1, 2), keyOf(2, 0, 1, 2)
	const id = 5 << 20
	for _, epoch := range []int64{0, 6, 8, api.MaxNum} {
		for _, op := range []int{0, api.OGet, api.OKill} {
			is(t, "P24.2: another epoch", n.Step(asks(2, 1, id, op, mine, epoch)), answers(1, 2, id, api.ErrStale, api.Item{}))
		}
		is(t, "P24.2: another epoch", n.Step(asks(3, 1, 0, api.OGet, "", epoch)), answers(1, 3, 0, api.ErrStale, api.Item{}))
	}
	is(t, "P24.2: ErrForm", n.Step(asks(2, 1, id, 0, mine, 7)), answers(1, 2, id, api.ErrForm, api.Item{}))
	is(t, "P24.2: ErrForm", n.Step(asks(2, 1, id, api.OGet, "", 7)), answers(1, 2, id, api.ErrForm, api.Item{}))
	for _, m := range []api.Msg{asks(2, 1, id, 3, mine, 7), asks(2, 1, id, api.OGet, strings.Repeat("k", 41), 7), asks(2, 1, -1, api.OGet, mine, 7), asks(2, 2, id, api.OGet, mine, 7), asks(1, 1, id, api.OGet, mine, 7), asks(2, 3, id, api.OGet, mine, 7), asks(2, 0, id, api.OGet, mine, 7), asks(6, 1, id, api.OGet, mine, 7)} {
		is(t, "P24.2: it may not be, or is another's: "+told(m), n.Step(m))
	}
	is(t, "P24.2: a read waits", n.Step(asks(2, 1, id, api.OGet, mine, 7)))
	is(t, "P24.2: a read waits", n.Step(asks(5, 1, id, api.OGet, mine, 7)))
	is(t, "P24.2: a read waits", n.Step(asks(2, 1, id+1, api.OGet, mine, 7)))
	readsAre(t, "P24.2", n, mine, mine, mine)
	is(t, "P24.2: none", n.Read(2, "", false), answers(1, 2, id+1, api.OK, api.Item{Key: mine, Gone: true}))
	is(t, "P24.2: read", n.Read(0, "val", true), answers(1, 2, id, api.OK, api.Item{Key: mine, Val: "val"}))
	if len(d.Loose()) != 0 {
		t.Error("P24.3: not flushed")
	}
	is(t, "P24.2: a hit", n.Step(asks(3, 1, 8, api.OGet, mine, 7)), answers(1, 3, 8, api.OK, api.Item{Key: mine, Val: "val"}))
	is(t, "P24.2: to 0", n.Step(asks(0, 1, 8, api.OGet, mine, 7)), answers(1, 0, 8, api.OK, api.Item{Key: mine, Val: "val"}))
	is(t, "P24.2: OKill", n.Step(asks(3, 1, 9, api.OKill, mine, 7)), answers(1, 3, 9, api.OK, api.Item{}))
	keysAre(t, "P24.2: OKill", n)
	is(t, "P24.2: a token that was killed", n.Read(0, "late", true), answers(1, 5, id, api.OK, api.Item{Key: mine, Val: "late"}))
	keysAre(t, "P24.2: a token that was killed", n)
	// what is another's is handed on, and its answer, too
	is(t, "P24.2: as Ask", n.Step(asks(3, 1, 10, api.OGet, other, 7)), asks(1, 2, 1<<20+1, api.OGet, other, 7))
	is(t, "P24.2: as Ask", n.Step(asks(2, 1, 11, api.OGet, other, 7)), asks(1, 2, 1<<20+2, api.OGet, other, 7))
	is(t, "P24.2: as Ask", n.Step(asks(4, 1, 12, api.OKill, other, 7)), asks(1, 2, 1<<20+3, api.OKill, other, 7))
	is(t, "P24.2: told", n.Step(answers(2, 1, 1<<20+1, api.OK, item(other))), answers(1, 3, 10, api.OK, item(other)))
	is(t, "P24.2: told", n.Step(answers(2, 1, 1<<20+2, api.ErrStale, api.Item{})), answers(1, 2, 11, api.ErrBusy, api.Item{}))
	is(t, "P24.2: told", n.Step(answers(2, 1, 1<<20+3, api.OK, api.Item{})), answers(1, 4, 12, api.OK, api.Item{}))
	n.Tick(20)
	is(t, "P24.2: no lease", n.Step(asks(2, 1, id, api.OGet, mine, 7)), answers(1, 2, id, api.ErrBusy, api.Item{}))
	// behind another epoch the read is told all the same
	n.Step(grant(1, 20, 7, 1, 2))
	n.Step(asks(2, 1, 13, api.OGet, mine, 7))
	n.Step(commit(1, 8, 2))
	is(t, "P24.2: a read of an elder epoch", n.Read(0, "x", true), answers(1, 2, 13, api.OK, api.Item{Key: mine, Val: "x"}))
	fresh, _ := made(t, 1)
	is(t, "P24.2: no ring", fresh.Step(asks(2, 1, id, api.OGet, mine, 0)), answers(1, 2, id, api.ErrBusy, api.Item{}))
	is(t, "P24.2: no ring", fresh.Step(asks(2, 1, id, api.OKill, "", 0)), answers(1, 2, id, api.ErrForm, api.Item{}))
}
