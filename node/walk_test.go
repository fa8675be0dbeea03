package node_test

import (
	"fmt"
	"math/rand/v2"
	"slices"
	"testing"

	"icehouse/api"
	"icehouse/clock"
	"icehouse/control"
	"icehouse/dev"
	"icehouse/net"
	"icehouse/node"
)

// Here nodes and an authority live together, on clocks that go alike, over a way that loses, repeats and mixes up, while they fall and are started again. What must hold then is told in doc/27 (H1 to H5).

// call is what a client asked, and what it was told.
type call struct {
	op       int
	key      string
	node     int
	from, to int // positions of the origin
	floor    int // of an OGet: the From of the last OKill of the key that had ended with OK when it began
	done     bool
	reply    api.Reply
}

// value is what the origin has of a key from a position on.
type value struct {
	pos int
	val string
	has bool
}

// world is all of them.
type world struct {
	t       *testing.T
	r       *rand.Rand
	keys    []string
	au      *control.Control
	auDev   *dev.Dev
	auClock *clock.Clock
	nodes   [6]*node.Node // nil: down
	devs    [6]*dev.Dev
	clocks  [6]*clock.Clock
	ever    [6]bool
	most    [6]api.Meta // the greatest Boot and Epoch that each node had
	seq     [6]int64    // likewise of its journal
	left    [][6]int64  // what the nodes' clocks showed when the authority's went on from each of its ticks
	way     *net.Net
	pos     int
	held    map[string][]value
	calls   []*call
	reads   map[string]int // how often the origin was asked for a key
	log     []string
}

func newWorld(t *testing.T, r *rand.Rand, keys int, members ...int) *world {
	w := &world{t: t, r: r, auDev: dev.New(2), way: net.New(), held: map[string][]value{}, reads: map[string]int{}}
	var err api.Errno
	if w.au, err = control.Make(w.auDev, members...); err != api.OK {
		t.Fatal(err)
	}
	w.auClock = w.au.Clock
	for i := range keys {
		w.keys = append(w.keys, fmt.Sprint("key", i))
	}
	for id := 1; id <= 5; id++ {
		w.devs[id], w.clocks[id] = dev.New(1200), &clock.Clock{}
		if slices.Contains(members, id) {
			w.start(id)
		}
	}
	return w
}

func (w *world) fail(format string, args ...any) {
	w.t.Helper()
	for _, l := range w.log[max(0, len(w.log)-60):] {
		w.t.Log(l)
	}
	w.t.Fatalf(format, args...)
}

func (w *world) note(format string, args ...any) {
	w.log = append(w.log, fmt.Sprintf(format, args...))
}

func (w *world) start(id int) {
	w.note("start %d", id)
	open := node.Open
	if !w.ever[id] {
		open = node.Make
	}
	n, err := open(id, w.devs[id], w.clocks[id])
	if err != api.OK {
		w.fail("P24.3: start of %d: %v", id, err)
	}
	w.nodes[id], w.ever[id] = n, true
}

func (w *world) crash(id int) {
	w.note("crash %d", id)
	w.devs[id] = w.devs[id].Crash(w.loose(w.devs[id])...)
	w.nodes[id] = nil
	for _, c := range w.calls {
		if !c.done && c.node == id {
			c.done, c.to, c.reply = true, w.pos, api.Reply{Err: api.ErrDown}
		}
	}
}

func (w *world) loose(d *dev.Dev) []bool {
	keep := make([]bool, len(d.Loose()))
	for i := range keep {
		keep[i] = w.r.IntN(2) == 0
	}
	return keep
}

// crashAuthority starts it again at once.
func (w *world) crashAuthority() {
	w.note("crash 0")
	w.auDev = w.auDev.Crash(w.loose(w.auDev)...)
	var err api.Errno
	if w.au, err = control.Open(w.auDev, w.auClock); err != api.OK {
		w.fail("control.Open: %v", err)
	}
}

// went takes in what comes of a call of a node.
func (w *world) went(id int, o node.Out) {
	for _, m := range o.Msgs {
		if m.From != id {
			w.fail("P24.2: %d says %v", id, m)
		}
	}
	w.say(o.Msgs)
	for _, r := range o.Replies {
		c := w.calls[r.Id-1]
		if c.done || c.node != id || c.op != r.Op || c.key != r.Key {
			w.fail("P24.3: %d tells %v of %v", id, r, c)
		}
		c.done, c.to, c.reply = true, w.pos, r
		w.note("told %v", r)
		w.right(c)
	}
}

func (w *world) say(l []api.Msg) {
	if n := w.way.Send(l...); n < len(l) && w.way.Len() < api.MaxNet {
		w.fail("P24.2: one of these may not be: %v", l)
	}
}

// right holds what was told to H1.
func (w *world) right(c *call) {
	r := c.reply
	if r.Err != api.OK || c.op != api.OGet {
		if r.Val != "" || r.Has {
			w.fail("P24.3: told %v", r)
		}
		return
	}
	is := value{}
	ok := false
	for _, v := range append(slices.Clone(w.held[c.key]), value{pos: w.pos + 1}) {
		// is was there from its position till ahead of v's.
		if is.pos <= c.to && v.pos > c.floor && is.val == r.Val && is.has == r.Has {
			ok = true
		}
		is = v
	}
	if !ok {
		w.fail("H1: told %v, but the origin had %v from %d to %d", r, w.held[c.key], c.floor, c.to)
	}
}

func (w *world) ask(id, op int, key string) {
	c := &call{op: op, key: key, node: id, from: w.pos}
	for _, k := range w.calls {
		if k.op == api.OKill && k.key == key && k.done && k.reply.Err == api.OK {
			c.floor = max(c.floor, k.from)
		}
	}
	w.calls = append(w.calls, c)
	w.note("ask %d: %d %d %s at %d", len(w.calls), id, op, key, w.pos)
	w.went(id, w.nodes[id].Ask(int64(len(w.calls)), op, key))
}

func (w *world) set(key string, has bool) {
	w.pos++
	v := value{pos: w.pos, has: has}
	if has {
		v.val = fmt.Sprint(w.pos)
	}
	w.note("set %s %v", key, v)
	w.held[key] = append(w.held[key], v)
}

func (w *world) read(id, i int) {
	n := w.nodes[id]
	l := n.Reads()
	if i >= len(l) {
		return
	}
	v := value{}
	if h := w.held[l[i]]; len(h) > 0 {
		v = h[len(h)-1]
	}
	w.reads[l[i]]++
	w.note("read of %d: %s %v", id, l[i], v)
	w.went(id, n.Read(i, v.val, v.has))
	if len(n.Reads()) != len(l)-1 {
		w.fail("P24.3: Reads %v, behind %v", n.Reads(), l)
	}
}

// arrive lets the i-th message come.
func (w *world) arrive(i int, stays bool) {
	m, ok := w.way.Look(i)
	if !ok {
		return
	}
	if !stays {
		w.way.Drop(i)
	}
	w.note("comes %s", told(m))
	if m.To == 0 {
		w.say(w.au.Step(m))
	} else if n := w.nodes[m.To]; n != nil {
		w.went(m.To, n.Step(m))
	}
}

// tick lets a clock go on by one; that of the authority not so far that a node's would be left behind.
func (w *world) tick(id int) {
	if id > 0 {
		w.note("tick %d", id)
		w.clocks[id].Tick()
		if n := w.nodes[id]; n != nil {
			w.went(id, n.Beat())
		}
		return
	}
	var now [6]int64
	for n := 1; n <= 5; n++ {
		for len(w.left) >= 39 && w.clocks[n].Now() < w.left[len(w.left)-39][n]+20 {
			w.tick(n)
		}
		now[n] = w.clocks[n].Now()
	}
	w.note("tick 0")
	w.left = append(w.left, now)
	w.auClock.Tick()
	w.say(w.au.Beat())
}

// check holds all to H2 and H3.
func (w *world) check() {
	for _, key := range w.keys {
		who := 0
		for id, n := range w.nodes {
			if n == nil || !n.Serves(key) {
				continue
			}
			if who != 0 {
				w.fail("H2: both %d and %d serve %s", who, id, key)
			}
			who = id
		}
	}
	for id, n := range w.nodes {
		if n == nil {
			continue
		}
		m, was := n.Meta(), w.most[id]
		if m.Epoch < was.Epoch || m.Boot < was.Boot || n.Seq() < w.seq[id] {
			w.fail("H3: %d: %v, journal at %d; it was %v, %d", id, m, n.Seq(), was, w.seq[id])
		}
		w.most[id], w.seq[id] = m, n.Seq()
		if r := n.Ring(); r != nil && r.Epoch() != m.Epoch {
			w.fail("P24: %d has a ring of %d: %v", id, r.Epoch(), m)
		}
	}
}

func (w *world) up() []int {
	var out []int
	for id, n := range w.nodes {
		if n != nil {
			out = append(out, id)
		}
	}
	return out
}

// change asks the authority for one; lose: also to go on without a node.
func (w *world) change(lose bool) {
	id := 1 + w.r.IntN(5)
	var l []api.Msg
	var err api.Errno
	switch n := w.r.IntN(9); {
	case n < 4:
		l, err = w.au.Join(id)
	case n < 6:
		l, err = w.au.Leave(id)
	case n < 8 && lose:
		// It may be up all the same: then it is cut off.
		l, err = w.au.Lose(id)
	case n == 8:
		l, err = w.au.Back()
	}
	if err == api.OK {
		w.note("change: under way %d: %v", w.au.Under(), l)
	}
	w.say(l)
}

// some is one step of the script.
func (w *world) some() {
	r := w.r
	key := w.keys[r.IntN(len(w.keys))]
	id := 1 + r.IntN(5)
	up := w.nodes[id] != nil
	switch n := r.IntN(1000); {
	case n < 550:
		w.arrive(r.IntN(min(max(w.way.Len(), 1), 6)), r.IntN(20) == 0)
	case n < 575:
		w.way.Drop(r.IntN(max(w.way.Len(), 1)))
	case n < 600:
		w.tick(0)
	case n < 720:
		w.tick(id)
	case n < 770:
		w.set(key, r.IntN(6) > 0)
	case n < 830:
		if up {
			w.ask(id, api.OGet, key)
		}
	case n < 880:
		if up {
			w.ask(id, api.OKill, key)
		}
	case n < 960:
		if up {
			w.read(id, r.IntN(3))
		}
	case n < 970:
		w.change(true)
	case n < 976:
		if up {
			w.crash(id)
		}
	case n < 985:
		if !up {
			w.start(id)
		}
	case n < 986:
		w.crashAuthority()
	}
}

// rests tells whether nothing is to be done any more.
func (w *world) rests() bool {
	for _, c := range w.calls {
		if !c.done {
			return false
		}
	}
	for _, id := range w.au.Members() {
		n := w.nodes[id]
		if n.Meta().Frozen || !n.Good(n.Meta().Epoch) {
			return false
		}
	}
	return w.au.Under() == 0
}

// rest lets all come to rest; it answers after how many rounds.
func (w *world) rest() int {
	for n := range 101 {
		if w.rests() {
			return n
		}
		w.tick(0)
		for _, id := range w.up() {
			w.tick(id)
		}
		for i := 0; i < 3000 && w.way.Len() > 0; i++ {
			w.arrive(0, false)
		}
		for _, id := range w.up() {
			for len(w.nodes[id].Reads()) > 0 {
				w.read(id, 0)
			}
		}
		w.check()
	}
	w.fail("H5: no rest: under way %d", w.au.Under())
	return 0
}

// P24.1 to P24.3: H1, H2, H3 and H5 hold in long scripts that are drawn at random.
func TestWorlds(t *testing.T) {
	t.Parallel()
	changes, told, killed, hits := int64(0), 0, 0, 0
	for seed := range uint64(60) {
		r := rand.New(rand.NewPCG(24, seed))
		w := newWorld(t, r, 3+int(seed%9), [][]int{{1, 2, 3}, {4}, {1, 2, 3, 4, 5}, {2, 5}}[seed%4]...)
		for range 6000 {
			w.some()
			w.check()
		}
		for id := 1; id <= 5; id++ {
			if w.nodes[id] == nil {
				w.start(id)
			}
		}
		w.rest()
		changes += w.au.Epoch() - 1
		for _, n := range w.reads {
			hits -= n
		}
		for _, c := range w.calls {
			if c.reply.Err != api.OK {
				continue
			}
			if c.op == api.OGet {
				told++
				hits++
			} else {
				killed++
			}
		}
	}
	if changes < 300 || told < 3000 || killed < 2000 || hits < 100 {
		t.Errorf("only %d changes, %d told, %d killed, %d hits", changes, told, killed, hits)
	}
}

// owner is the node to which the ring gives the key. (Who is no member need not know it.)
func (w *world) owner(key string) int { return w.nodes[w.au.Members()[0]].Ring().Of(key) }

// get asks a member for the key, lets all that is said come, and answers what was told.
func (w *world) get(key string) api.Reply {
	members := w.au.Members()
	id := members[w.r.IntN(len(members))]
	w.ask(id, api.OGet, key)
	c := w.calls[len(w.calls)-1]
	for range 50 {
		w.arrive(0, false)
		for _, id := range w.up() {
			for len(w.nodes[id].Reads()) > 0 {
				w.read(id, 0)
			}
		}
	}
	if !c.done {
		w.fail("P24.3: %d is told nothing of %s", id, key)
	}
	return c.reply
}

// H4: what was in a cache ahead of a change, and was not killed, is answered behind it without a read of the origin, whatever is lost, comes twice or late on the way.
func TestWarm(t *testing.T) {
	t.Parallel()
	moved := 0
	for seed := range uint64(100) {
		r := rand.New(rand.NewPCG(24, 1000+seed))
		w := newWorld(t, r, 24, [][]int{{1, 2}, {3}, {1, 2, 3, 4}, {2, 4, 5}}[seed%4]...)
		for id := 1; id <= 5; id++ {
			if w.nodes[id] == nil {
				w.start(id)
			}
		}
		w.rest()
		for _, key := range w.keys {
			w.set(key, true)
			if r := w.get(key); r.Err != api.OK || !r.Has {
				w.fail("H4: told %v", r)
			}
		}
		for range 4 {
			w.rest()
			owners := map[string]int{}
			for _, key := range w.keys {
				owners[key] = w.owner(key)
			}
			gone := map[string]bool{}
			w.change(false)
			for range 150 {
				switch n := r.IntN(20); {
				case n < 12:
					w.arrive(r.IntN(min(max(w.way.Len(), 1), 6)), r.IntN(10) == 0)
				case n < 13:
					w.way.Drop(r.IntN(max(w.way.Len(), 1)))
				case n < 17:
					w.tick(r.IntN(6))
				case n < 18:
					w.ask(1+r.IntN(5), api.OGet, w.keys[r.IntN(len(w.keys))])
				case n < 19 && r.IntN(3) == 0:
					key := w.keys[r.IntN(len(w.keys))]
					gone[key] = true
					w.ask(1+r.IntN(5), api.OKill, key)
				}
				w.check()
			}
			w.rest()
			w.warm(owners, gone, &moved)
		}
	}
	if moved < 400 {
		t.Errorf("only %d entries have moved", moved)
	}
}

// warm asks for all keys; those that are not gone must be in the caches.
func (w *world) warm(owners map[string]int, gone map[string]bool, moved *int) {
	w.t.Helper()
	for _, key := range w.keys {
		reads := w.reads[key]
		if r := w.get(key); r.Err != api.OK || !r.Has {
			w.fail("H4: told %v", r)
		}
		if gone[key] {
			continue
		}
		if w.reads[key] != reads {
			w.fail("H4: %s was read again", key)
		}
		if owners[key] != w.owner(key) {
			*moved++
		}
	}
}
