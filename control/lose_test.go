package control_test

import (
	"fmt"
	"testing"

	"icehouse/api"
	"icehouse/clock"
	"icehouse/control"
	"icehouse/dev"
)

// lost is an authority of 1, 2, 3 whose clock stands at start, which granted to the node 2 at each of the ticks, and to the others all the time.
func lost(t *testing.T, start int64, granted ...int64) *control.Control {
	t.Helper()
	c, _ := made(t, 1, 2, 3)
	for _, at := range granted {
		c.Tick(at - c.Now())
		is(t, "P23.3: MRenew", c.Step(renew(2, 1, 0)), grant(2, 77, 1, 1, 2, 3))
	}
	c.Tick(start - c.Now())
	c.Step(renew(1, 1, 0))
	c.Step(renew(3, 1, 0))
	return c
}

// P23.2: the commit of Lose comes 40 ticks behind the last grant to that node, not a tick ahead: of Step, if the answers come then or later, else of Beat.
func TestLoseWaits(t *testing.T) {
	want := commits(2, []int{1, 3}, 1, 2, 3)
	for _, granted := range [][]int64{{0}, {7}, {0, 30}, {1, 2, 3, 5}} {
		last := granted[len(granted)-1]
		for _, ago := range []int64{0, 1, 19, 20, 21, 38, 39, 40, 41, 1000} {
			what := fmt.Sprintf("P23.2: granted at %v, all MFrozen %d ticks later", granted, ago)
			c := lost(t, last, granted...)
			c.Lose(2)
			pass(t, c, prepared, 1, 3)
			c.Tick(ago)
			l := pass(t, c, frozen, 3, 1)
			if ago >= 40 {
				is(t, what, l, want...)
				check(t, what, c, 2, 0, 1, 3)
				continue
			}
			is(t, what, l)
			for range 40 - ago {
				is(t, what, c.Beat())
				is(t, what+": MFrozen again", c.Step(frozen(1, 2)))
				check(t, what, c, 1, 2, 1, 2, 3)
				c.Tick()
			}
			is(t, what+": MFrozen is not Beat", c.Step(frozen(1, 2)))
			is(t, what, c.Beat(), want...)
			check(t, what, c, 2, 0, 1, 3)
			is(t, what, c.Beat())
		}
	}
}

// P23.2: a node that was granted nothing since Make is lost at once, whoever else was, wherever the clock stands.
func TestLoseAtOnce(t *testing.T) {
	for _, start := range []int64{0, 1, 39, 40, 41, edge - 1, edge} {
		c := lost(t, start)
		c.Lose(2)
		pass(t, c, prepared, 1, 3)
		is(t, "P23.2: no grant since Make", pass(t, c, frozen, 1, 3), commits(2, []int{1, 3}, 1, 2, 3)...)
	}
}

// P23.2: only Lose waits, and only for that node.
func TestLeaveAtOnce(t *testing.T) {
	c := lost(t, 5, 5)
	c.Leave(2)
	pass(t, c, prepared, 1, 2, 3)
	is(t, "P23.2: Leave", pass(t, c, frozen, 1, 2, 3), commits(2, []int{1, 3}, 1, 2, 3)...)
	c.Join(2)
	pass(t, c, prepared, 1, 2, 3)
	is(t, "P23.2: Join", pass(t, c, frozen, 1, 2, 3), commits(3, []int{1, 2, 3}, 1, 2, 3)...)
}

// P23.2: a grant counts on through other changes, while the node is no member too; one of a change that was given up counts as well.
func TestGrantLasts(t *testing.T) {
	c := lost(t, 10, 10)
	for _, f := range []func(int) ([]api.Msg, api.Errno){c.Leave, c.Join} {
		f(2)
		pass(t, c, prepared, 1, 2, 3)
		pass(t, c, frozen, 1, 2, 3)
	}
	c.Tick(39)
	c.Lose(2)
	pass(t, c, prepared, 1, 3)
	is(t, "P23.2: it waits", pass(t, c, frozen, 1, 3))
	c.Back()
	is(t, "P23.2: MRenew", c.Step(renew(2, 3, 0)), grant(2, 77, 3, 1, 2, 3))
	for range 2 {
		c.Lose(2)
		is(t, "P23.3: MRenew of the one that is lost", c.Step(renew(2, 3, 0)))
		pass(t, c, prepared, 1, 3)
		is(t, "P23.2: it waits", pass(t, c, frozen, 1, 3))
		c.Back()
	}
	c.Tick(30)
	c.Lose(2)
	pass(t, c, prepared, 1, 3)
	is(t, "P23.2: it waits", pass(t, c, frozen, 1, 3))
	c.Tick(9)
	is(t, "P23.2: it waits", c.Beat())
	c.Tick(1)
	is(t, "P23.2: 40 ticks", c.Beat(), commits(7, []int{1, 3}, 1, 2, 3)...)
}

// P23.3: nothing is granted to a node that is being lost, in any phase; behind Back it is again, and that counts.
func TestLostAsks(t *testing.T) {
	c := lost(t, 10, 10)
	c.Lose(2)
	asked := func(what string) {
		t.Helper()
		c.Tick(3)
		is(t, what, c.Step(renew(2, 1, 0)))
		is(t, what, c.Step(renew(2, 0, 0)), commits(1, []int{1, 2, 3}, 2)...)
		is(t, what, c.Step(renew(2, 1, 2)))
		is(t, what, c.Step(renew(2, 0, 9)), append(aborts(9, 2), commits(1, []int{1, 2, 3}, 2)...)...)
		is(t, what+", another one", c.Step(renew(3, 1, 0)), grant(3, 77, 1, 1, 2, 3))
	}
	asked("P23.3: in the first phase")
	pass(t, c, prepared, 1, 3)
	asked("P23.3: in the second phase")
	pass(t, c, frozen, 1, 3)
	asked("P23.3: in the third phase")
	c.Back()
	is(t, "P23.3: behind Back", c.Step(renew(2, 1, 0)), grant(2, 77, 1, 1, 2, 3)) // at 19
	c.Lose(2)
	pass(t, c, prepared, 1, 3)
	pass(t, c, frozen, 1, 3)
	c.Tick(39)
	is(t, "P23.2: it waits", c.Beat())
	c.Tick(1)
	is(t, "P23.2: 40 ticks", c.Beat(), commits(3, []int{1, 3}, 1, 2, 3)...)
}

// P23.1: what an Open'd authority granted counts as granted to all just now, whatever was; also to nodes that become members later.
func TestOpenGranted(t *testing.T) {
	for _, start := range []int64{0, 1, 100} {
		for node := 1; node <= 5; node++ {
			_, d := made(t, 1, 2, 3)
			k := &clock.Clock{}
			k.Tick(start)
			e := opened(t, d, k)
			k.Tick(10)
			nodes := []int{1, 2, 3}
			if node > 3 {
				nodes = append(nodes, node)
				e.Join(node)
				pass(t, e, prepared, nodes...)
				pass(t, e, frozen, nodes...)
			}
			e.Lose(node)
			number, rest := e.Under(), without(nodes, node)
			pass(t, e, prepared, rest...)
			is(t, "P23.1: granted just now", pass(t, e, frozen, rest...))
			k.Tick(29)
			is(t, "P23.1: granted just now", e.Beat())
			k.Tick(1)
			is(t, "P23.1: 40 ticks", e.Beat(), commits(number, rest, nodes...)...)
		}
	}
}

func without(nodes []int, node int) []int {
	var out []int
	for _, n := range nodes {
		if n != node {
			out = append(out, n)
		}
	}
	return out
}

// P23.3: Back, in each phase of each change: MAbort of its number to its nodes, and nothing is under way; its number is not given again, behind a crash neither.
func TestBack(t *testing.T) {
	for _, x := range changes {
		for phase := range 3 {
			c, d := made(t, 1, 2, 4)
			c.Step(renew(1, 1, 0))
			if l, err := c.Back(); len(l) != 0 || err != api.ErrNone {
				t.Errorf("P23.3: Back of nothing: %v, %v", l, err)
			}
			node := map[string]int{"Join": 3, "Leave": 1, "Lose": 1}[x.name]
			_, _, nodes, _ := x.want([]int{1, 2, 4}, node)
			x.begin(c, node)
			if phase > 0 {
				pass(t, c, prepared, nodes...)
			}
			if phase > 1 {
				if x.name != "Lose" {
					continue // the third phase of the others is over at once
				}
				pass(t, c, frozen, nodes...)
			}
			calls := d.Calls()
			l, err := c.Back()
			if err != api.OK || d.Calls() != calls {
				t.Errorf("P23.3: Back: %v, %d calls", err, d.Calls()-calls)
			}
			is(t, "P23.3: Back", l, aborts(2, nodes...)...)
			check(t, "P23.3: Back", c, 1, 0, 1, 2, 4)
			c.Tick(50)
			is(t, "P23.3: Beat behind Back", c.Beat())
			is(t, "P23.3: answers behind Back", append(c.Step(prepared(2, 2)), c.Step(frozen(2, 2))...))
			if l, err := c.Back(); len(l) != 0 || err != api.ErrNone {
				t.Errorf("P23.3: Back behind Back: %v, %v", l, err)
			}
			e := opened(t, d.Crash(), nil)
			for _, y := range []*control.Control{c, e} {
				y.Leave(4)
				check(t, "P23.2: the next one", y, 1, 3, 1, 2, 4)
			}
		}
	}
}

// P23.1, P23.2: each change has a number of its own, rising, through Backs and crashes; the epoch is the number of the last one that was committed.
func TestNumbers(t *testing.T) {
	c, d := made(t, 1, 2, 3, 4)
	epoch := int64(1)
	for number := int64(2); number < 400; number++ {
		f := []func(int) ([]api.Msg, api.Errno){c.Leave, c.Join}[len(c.Members())%2]
		if l, err := f(3); err != api.OK || len(l) == 0 || l[0].Epoch != number || l[0].Base != epoch {
			t.Fatalf("P23.2: the change %d: %v, %v", number, l, err)
		}
		switch number % 3 {
		case 0:
			c.Back()
		case 1:
			d = d.Crash()
			c = opened(t, d, &clock.Clock{})
		default:
			pass(t, c, prepared, 1, 2, 3, 4)
			pass(t, c, frozen, 1, 2, 3, 4)
			epoch = number
		}
		if c.Epoch() != epoch || c.Under() != 0 {
			t.Fatalf("P23.2: behind the change %d: epoch %d, want %d", number, c.Epoch(), epoch)
		}
	}
}

// crashes calls see for each choice of sectors that stay, where a call was cut off: were and are the sectors ahead of it and behind it.
func crashes(were, are *dev.Dev, see func(x *dev.Dev)) {
	for choice := range 4 {
		x := were.Crash()
		for i := range 2 {
			b, _ := are.Read(i)
			x.Write(i, b)
		}
		see(x.Crash(choice&1 != 0, choice&2 != 0))
	}
}

// P23.1: a crash within a call finds what was kept ahead of it, or what it keeps.
func TestCrashWithin(t *testing.T) {
	c, d := made(t, 1, 2, 3)
	for range 20 {
		was, epoch := d.Crash(), c.Epoch()
		c.Leave(3)
		number := c.Under()
		crashes(was, d, func(x *dev.Dev) {
			e := opened(t, x, nil)
			check(t, "P23.1: a crash within Leave", e, epoch, 0, 1, 2, 3)
			if e.Leave(3); e.Under() != number && e.Under() != number+1 {
				t.Errorf("P23.1: a crash within Leave: then the number %d", e.Under())
			}
		})
		pass(t, c, prepared, 1, 2, 3)
		c.Step(frozen(1, number))
		c.Step(frozen(2, number))
		was = d.Crash()
		c.Step(frozen(3, number))
		crashes(was, d, func(x *dev.Dev) {
			e := opened(t, x, nil)
			if e.Epoch() == epoch {
				check(t, "P23.1: a crash within the commit", e, epoch, 0, 1, 2, 3)
			} else {
				check(t, "P23.1: a crash within the commit", e, number, 0, 1, 2)
			}
			if e.Join(4); e.Under() != number+1 {
				t.Errorf("P23.1: a crash within the commit: then the number %d", e.Under())
			}
		})
		c.Join(3)
		pass(t, c, prepared, 1, 2, 3)
		pass(t, c, frozen, 1, 2, 3)
	}
}

// P23.2: what is told lasts: the number ahead of the first MPrepare, the epoch ahead of the first MCommit.
func TestKeptFirst(t *testing.T) {
	c, d := made(t, 1, 2)
	c.Join(3)
	e := opened(t, d.Crash(), nil)
	if e.Join(3); e.Under() != 3 {
		t.Errorf("P23.2: the number is not kept: %d", e.Under())
	}
	pass(t, c, prepared, 1, 2, 3)
	pass(t, c, frozen, 1, 2, 3)
	check(t, "P23.2: the epoch is kept", opened(t, d.Crash(), nil), 2, 0, 1, 2, 3)
}

// P23.2: all errors of the device: ErrDown, and nothing is under way.
func TestDeviceDown(t *testing.T) {
	for _, x := range changes {
		c, d := made(t, 1, 2)
		node := map[string]int{"Join": 3, "Leave": 1, "Lose": 1}[x.name]
		*d = dev.Dev{}
		if _, err := x.begin(c, 5-node); err != api.ErrForm && x.name != "Join" {
			t.Errorf("P23.2: %s of none: %v, want ErrForm", x.name, err)
		}
		if l, err := x.begin(c, node); len(l) != 0 || err != api.ErrDown {
			t.Errorf("P23.2: %s: %v, %v, want ErrDown", x.name, l, err)
		}
		check(t, "P23.2: "+x.name, c, 1, 0, 1, 2)
		is(t, "P23.2: Beat", c.Beat())
	}
	for _, waits := range []bool{false, true} {
		c, d := made(t, 1, 2)
		if waits {
			c.Step(renew(2, 1, 0))
		}
		c.Lose(2)
		pass(t, c, prepared, 1)
		whole := *d
		*d = dev.Dev{}
		l := pass(t, c, frozen, 1)
		if waits {
			c.Tick(40)
			l = append(l, c.Beat()...)
		}
		is(t, "P23.2: the commit", l)
		check(t, "P23.2: the commit", c, 1, 0, 1, 2)
		is(t, "P23.2: Beat", c.Beat())
		*d = whole
		c.Lose(2)
		check(t, "P23.2: behind it", c, 1, 3, 1, 2)
	}
}
