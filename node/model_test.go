package node_test

import (
	"fmt"
	"math/rand/v2"
	"slices"
	"testing"

	"icehouse/api"
	"icehouse/clock"
	"icehouse/dev"
	"icehouse/move"
	"icehouse/msg"
	"icehouse/node"
	"icehouse/plan"
	"icehouse/ring"
	"icehouse/store"
)

// The reference below is written from the chapter, sentence by sentence: it keeps the asks in one list, each token with its read, and tells what moves key by key from the members. It has a store of its own, which is told the same.

// wait is an ask that was not told yet.
type wait struct {
	from   int // the node; -1: a client
	id     int64
	op     int
	key    string
	to     int // the node that it waits for; 0: the origin
	number int64
	at     int64
	good   bool // its token
}

// ref is a node.
type ref struct {
	id            int
	s             *store.Store
	d             *dev.Dev
	c             *clock.Clock
	epoch, ready  int64
	frozen        bool
	told          []int // who belongs; none: it has no ring
	leased, until int64
	waits         []wait
	count         int64
	planOf        int64 // the epoch whose plan it knows; 0: none
	old, members  []int
	outs          map[int]*move.Out
	ins           map[int]*move.In
	o             node.Out
}

func owner(members []int, key string) int { return ring.New(1, members...).Of(key) }

func (r *ref) owns(key string) bool { return len(r.told) > 0 && owner(r.told, key) == r.id }

func (r *ref) knows() bool { return r.ready != 0 && r.planOf == r.ready }

func (r *ref) serves(key string) bool {
	if !r.owns(key) || r.epoch == 0 || r.leased != r.epoch || r.c.Now() >= r.until {
		return false
	}
	if !r.frozen {
		return true
	}
	return r.knows() && (owner(r.old, key) != r.id || owner(r.members, key) == r.id)
}

func (r *ref) drop(unwanted func(string) bool) {
	for _, key := range r.s.Keys() {
		if unwanted(key) {
			r.s.Drop(key)
		}
	}
}

func (r *ref) dropOthers() { r.drop(func(key string) bool { return !r.owns(key) }) }

func (r *ref) movesGo() { r.planOf, r.outs, r.ins = 0, nil, nil }

func (r *ref) clearTokens() {
	for i := range r.waits {
		r.waits[i].good = false
	}
}

func (r *ref) say(m api.Msg) {
	m.From = r.id
	r.o.Msgs = append(r.o.Msgs, m)
}

// tell tells the ask, which is no more among those that wait.
func (r *ref) tell(w wait, err api.Errno, val string, has bool) {
	if err != api.OK || w.op != api.OGet || !has {
		val, has = "", false
	}
	if w.from < 0 {
		r.o.Replies = append(r.o.Replies, api.Reply{Id: w.id, Op: w.op, Key: w.key, Err: err, Val: val, Has: has})
		return
	}
	m := api.Msg{Kind: api.MAnswer, To: w.from, Id: w.id, Err: err}
	if err == api.OK && w.op == api.OGet {
		m.Item = api.Item{Key: w.key, Val: val, Gone: !has}
	}
	r.say(m)
}

// tellFar tells those of the asks that wait for another node that are meant.
func (r *ref) tellFar(err api.Errno, meant func(wait) bool) {
	var stay, gone []wait
	for _, w := range r.waits {
		if w.to != 0 && meant(w) {
			gone = append(gone, w)
		} else {
			stay = append(stay, w)
		}
	}
	r.waits = stay
	for _, w := range gone {
		r.tell(w, err, "", false)
	}
}

func (r *ref) adopt(epoch int64, members []int) {
	if epoch != r.ready {
		r.s.Wipe()
	}
	r.epoch, r.ready, r.frozen, r.told = epoch, 0, false, slices.Clone(members)
	r.dropOthers()
	r.leased, r.until = 0, 0
	r.clearTokens()
	r.movesGo()
	r.tellFar(api.ErrBusy, func(wait) bool { return true })
}

func (r *ref) giveUp() {
	r.ready, r.frozen = 0, false
	r.movesGo()
	if len(r.told) > 0 {
		r.dropOthers()
	}
}

func (r *ref) beat() {
	r.say(api.Msg{Kind: api.MRenew, Tick: r.c.Now(), Epoch: r.epoch, Seq: r.ready})
	r.nexts()
	r.tellFar(api.ErrTime, func(w wait) bool { return r.c.Now()-w.at >= 60 })
}

func (r *ref) nexts() {
	for dst := 1; dst <= 5; dst++ {
		for _, m := range r.outs[dst].Next() {
			r.say(m)
		}
	}
}

// all tells whether all Outs are Sent, or, if it is asked for, Done.
func (r *ref) all(done bool) bool {
	for _, o := range r.outs {
		if !o.Sent() || done && !o.Done() {
			return false
		}
	}
	return true
}

func (r *ref) step(m api.Msg) {
	if !msg.May(m) || m.To != r.id {
		return
	}
	ours := m.Epoch != 0 && m.Epoch == r.ready && r.knows()
	switch m.Kind {
	case api.MGrant, api.MCommit:
		r.belongs(m)
	case api.MPrepare, api.MFreeze:
		r.prepare(m)
	case api.MAbort:
		if m.Epoch != 0 && m.Epoch == r.ready {
			r.giveUp()
		}
	case api.MItems, api.MMarks:
		if x, ok := r.ins[m.From]; ok && ours {
			for _, m := range x.Step(m) {
				r.say(m)
			}
		}
	case api.MHave, api.MKnow:
		if o, ok := r.outs[m.From]; ok && ours {
			for _, m := range o.Step(m) {
				r.say(m)
			}
			if r.frozen && r.all(true) {
				r.say(api.Msg{Kind: api.MFrozen, Epoch: r.ready})
			}
			if !r.frozen && r.all(false) {
				r.say(api.Msg{Kind: api.MPrepared, Epoch: r.ready, Last: true})
			}
		}
	case api.MAsk:
		w := wait{from: m.From, id: m.Id, op: m.Op, key: m.Key}
		if m.Epoch != r.epoch {
			r.tell(w, api.ErrStale, "", false)
		} else {
			r.ask(w)
		}
	case api.MAnswer:
		err := m.Err
		if err == api.ErrStale {
			err = api.ErrBusy
		}
		for i, w := range r.waits {
			if w.to != 0 && w.to == m.From && w.number == m.Id {
				r.waits = slices.Delete(slices.Clone(r.waits), i, i+1)
				r.tell(w, err, m.Item.Val, m.Item != api.Item{} && !m.Item.Gone)
				break
			}
		}
	}
}

func (r *ref) belongs(m api.Msg) {
	if len(m.Members) == 0 || m.Epoch < r.epoch {
		return
	}
	if m.Epoch > r.epoch {
		r.adopt(m.Epoch, m.Members)
	} else if m.Kind == api.MGrant && len(r.told) == 0 && r.epoch > 0 {
		r.told = slices.Clone(m.Members)
		if r.ready == 0 {
			r.dropOthers()
		}
	}
	end := m.Tick + 20
	if m.Kind == api.MGrant && m.Epoch > 0 && m.Tick <= r.c.Now() && end > r.c.Now() && (m.Epoch > r.leased || m.Epoch == r.leased && end > r.until) {
		r.leased, r.until = m.Epoch, end
	}
}

func (r *ref) prepare(m api.Msg) {
	p := m.Epoch
	if p <= r.epoch || p < r.ready || m.Base < r.epoch || m.Base >= p || len(m.Old) == 0 || len(m.Members) == 0 {
		return
	}
	if m.Base > r.epoch {
		r.adopt(m.Base, m.Old)
	}
	if p > r.ready {
		if r.ready != 0 {
			r.giveUp()
		}
		r.ready, r.frozen = p, false
		r.drop(func(key string) bool {
			return m.Base > 0 && owner(m.Members, key) == r.id && owner(m.Old, key) != r.id
		})
	}
	fresh := r.planOf != p
	if fresh {
		r.plan(m)
	}
	if m.Kind == api.MFreeze {
		r.frozen = true
		r.clearTokens()
		for _, o := range r.outs {
			o.Freeze()
		}
	}
	if fresh {
		r.nexts()
	}
	if m.Kind == api.MPrepare {
		r.say(api.Msg{Kind: api.MPrepared, Epoch: p, Last: r.all(false)})
	} else if r.all(true) {
		r.say(api.Msg{Kind: api.MFrozen, Epoch: p})
	}
}

func (r *ref) plan(m api.Msg) {
	r.planOf, r.old, r.members = m.Epoch, m.Old, m.Members
	r.outs, r.ins = map[int]*move.Out{}, map[int]*move.In{}
	if m.Base == 0 {
		r.members = m.Old // a ring of the epoch 0 is none: nothing moves
	}
	parts := plan.Of(ring.New(1, r.old...), ring.New(1, r.members...))
	for id := 1; id <= 5; id++ {
		to, from := []api.Move{}, []api.Move{}
		for _, part := range parts {
			if part.Src == r.id && part.Dst == id {
				to = append(to, part)
			}
			if part.Src == id && part.Dst == r.id {
				from = append(from, part)
			}
		}
		if len(to) > 0 {
			r.outs[id] = move.Send(r.s, m.Epoch, r.id, id, to...)
		}
		if len(from) > 0 {
			r.ins[id] = move.Take(r.s, m.Epoch, id, r.id, from...)
		}
	}
}

func (r *ref) ask(w wait) {
	switch {
	case w.op != api.OGet && w.op != api.OKill || w.key == "" || len(w.key) > 40:
		r.tell(w, api.ErrForm, "", false)
	case len(r.told) == 0:
		r.tell(w, api.ErrBusy, "", false)
	case !r.owns(w.key):
		r.count++
		w.to, w.number, w.at = owner(r.told, w.key), r.s.Started()<<20+r.count, r.c.Now()
		r.waits = append(r.waits, w)
		r.say(api.Msg{Kind: api.MAsk, To: w.to, Id: w.number, Op: w.op, Key: w.key, Epoch: r.epoch})
	case !r.serves(w.key):
		r.tell(w, api.ErrBusy, "", false)
	case w.op == api.OKill:
		for i := range r.waits {
			if r.waits[i].key == w.key {
				r.waits[i].good = false
			}
		}
		_, err := r.s.Kill(w.key)
		r.tell(w, err, "", false)
	default:
		if x, ok := r.s.Get(w.key, r.c.Now()); ok {
			r.tell(w, api.OK, x.Val, true)
			return
		}
		w.good = true
		r.waits = append(r.waits, w)
	}
}

func (r *ref) reads() []string {
	var out []string
	for _, w := range r.waits {
		if w.to == 0 {
			out = append(out, w.key)
		}
	}
	return out
}

func (r *ref) read(i int, val string, has bool) {
	for k, w := range r.waits {
		if w.to != 0 {
			continue
		}
		if i == 0 {
			r.waits = slices.Delete(slices.Clone(r.waits), k, k+1)
			if w.good && has && len(val) <= 200 && r.serves(w.key) {
				r.s.Put(api.Item{Key: w.key, Val: val})
				r.s.Flush()
			}
			r.tell(w, api.OK, val, has)
			return
		}
		i--
	}
}

// drawer draws what may matter now.
type drawer struct {
	*rand.Rand
	keys []string
	w    *ref
	sent [6]api.Msg // the last that was said of a stream to each node
	took [6]api.Msg // the last answer to each node's stream
}

func (r *drawer) heard(l []api.Msg) {
	for _, m := range l {
		switch m.Kind {
		case api.MItems, api.MMarks:
			r.sent[m.To] = m
		case api.MHave, api.MKnow:
			r.took[m.To] = m
		}
	}
}

// other is a node, mostly one of those from which, or to which, something goes.
func (r *drawer) other(has func(int) bool) int {
	for range 12 {
		if id := r.IntN(6); has(id) {
			return id
		}
	}
	return r.IntN(6)
}

func (r *drawer) src() int { return r.other(func(id int) bool { return r.w.ins[id] != nil }) }

func (r *drawer) dst() int { return r.other(func(id int) bool { return r.w.outs[id] != nil }) }

func (r *drawer) op() int { return []int{1, 1, 1, 1, 1, 1, 2, 2, 2, 0, 3}[r.IntN(11)] }

func (r *drawer) key() string {
	if r.IntN(25) == 0 {
		return []string{"", "0123456789012345678901234567890123456789", "01234567890123456789012345678901234567890"}[r.IntN(3)]
	}
	return r.keys[r.IntN(len(r.keys))]
}

func (r *drawer) some() []int {
	for {
		var out []int
		for id := 1; id <= 5; id++ {
			if id == r.w.id && r.IntN(4) > 0 || r.IntN(3) == 0 {
				out = append(out, id)
			}
		}
		if len(out) > 0 {
			return out
		}
	}
}

func (r *drawer) items() []api.Item {
	var out []api.Item
	for range r.IntN(4) {
		key := r.keys[r.IntN(len(r.keys))]
		out = append(out, api.Item{Key: key, Val: fmt.Sprint("from afar ", r.IntN(9))})
	}
	return out
}

// change draws an MPrepare's or an MFreeze's fields.
func (r *drawer) change(m api.Msg) api.Msg {
	w := r.w
	m.From, m.Epoch, m.Base = 0, w.epoch+r.Int64N(4), w.epoch
	if w.ready > 0 && r.IntN(3) > 0 {
		m.Epoch = w.ready + r.Int64N(4)/3
	}
	if r.IntN(8) == 0 {
		m.Base = max(0, w.epoch-1+r.Int64N(4))
	}
	m.Old, m.Members = w.told, r.some()
	if len(m.Old) == 0 || r.IntN(10) == 0 {
		m.Old = r.some()
	}
	if r.IntN(20) == 0 {
		m.Members = nil
	}
	return m
}

func (r *drawer) msg() api.Msg {
	w := r.w
	m := api.Msg{Kind: 1 + r.IntN(14), From: r.IntN(6), To: w.id, Epoch: w.ready}
	if (m.Kind == api.MAbort || m.Kind == api.MCommit) && r.IntN(4) > 0 {
		m.Kind = api.MGrant
	}
	boot := w.s.Started()
	if r.IntN(10) == 0 {
		m.Epoch = w.epoch + r.Int64N(5)
	}
	switch m.Kind {
	case api.MGrant, api.MCommit:
		m.From, m.Epoch, m.Tick, m.Members = 0, w.epoch, max(0, w.c.Now()-r.Int64N(r.Int64N(24)+1)), r.some()
		if r.IntN(20) == 0 {
			m.Epoch = max(0, w.epoch-1+r.Int64N(4))
		}
		if w.ready > 0 && r.IntN(8) == 0 {
			m.Epoch = w.ready
		}
		if r.IntN(20) == 0 {
			m.Members = nil
		}
	case api.MPrepare, api.MFreeze:
		m = r.change(m)
	case api.MAbort:
		m.From, m.Epoch = 0, w.ready+r.Int64N(3)/2
	case api.MItems:
		m.From = r.src()
		m.Tick, m.Id, m.N, m.Items, m.Last, m.Seq = boot+r.Int64N(8)/7, r.took[m.From].Id+r.Int64N(2), 1+r.IntN(2), r.items(), r.IntN(3) > 0, r.Int64N(3)
	case api.MMarks:
		m.From = r.src()
		m.Tick, m.Id, m.Seq = boot, r.took[m.From].Id+r.Int64N(6)/5, r.Int64N(3)
		for i := range r.Int64N(4) {
			m.Marks = append(m.Marks, api.Mark{Seq: m.Seq + 1 + i, Key: r.keys[r.IntN(len(r.keys))]})
		}
	case api.MHave:
		m.From = r.dst()
		m.Tick, m.Id, m.N = r.sent[m.From].Tick+r.Int64N(9)/8, r.sent[m.From].Id+r.Int64N(9)/8, r.sent[m.From].N+r.IntN(9)/8
	case api.MKnow:
		m.From = r.dst()
		m.Tick, m.Id, m.Seq = r.sent[m.From].Tick+r.Int64N(9)/8, r.sent[m.From].Id+r.Int64N(9)/8, w.s.Seq()-r.Int64N(3)/2
	case api.MAsk:
		m.Id, m.Op, m.Key, m.Epoch = r.Int64N(100), r.op(), r.key(), w.epoch+r.Int64N(6)/5
	case api.MAnswer:
		m.Id, m.Err = boot<<20+max(0, w.count-r.Int64N(6)), api.Errno(max(0, r.IntN(20)-9))
		if far := slices.DeleteFunc(slices.Clone(w.waits), func(x wait) bool { return x.to == 0 }); len(far) > 0 && r.IntN(4) > 0 {
			m.From, m.Id = far[0].to, far[0].number
		}
		if x := r.items(); len(x) > 0 {
			m.Item = x[0]
		} else if r.IntN(2) == 0 {
			m.Item = api.Item{Key: r.keys[0], Gone: true}
		}
	}
	if r.IntN(40) == 0 {
		m.To = r.IntN(6)
	}
	return m
}

// pair is a node and what it should be.
type pair struct {
	t *testing.T
	r *drawer
	n *node.Node
	d *dev.Dev
	w *ref
	// last is what came of the last call.
	last node.Out
}

func newPair(t *testing.T, seed uint64) *pair {
	id := 1 + int(seed%5)
	n, d := made(t, id)
	w := &ref{id: id, d: dev.New(sectors), c: &clock.Clock{}}
	var err api.Errno
	if w.s, err = store.Make(w.d); err != api.OK {
		t.Fatal(err)
	}
	r := &drawer{Rand: rand.New(rand.NewPCG(24, 5000+seed)), w: w}
	for i := range 12 {
		r.keys = append(r.keys, fmt.Sprint("k", i))
	}
	return &pair{t: t, r: r, n: n, d: d, w: w}
}

// same holds what came of a call to the reference's.
func (p *pair) same(what string, o node.Out) {
	p.t.Helper()
	if w := p.w.o; !slices.EqualFunc(o.Msgs, w.Msgs, msg.Eq) || !slices.Equal(o.Replies, w.Replies) {
		p.t.Fatalf("%s:\n %s, want\n %s", what, tell(o), tell(w))
	}
	p.w.o, p.last = node.Out{}, o
	p.r.heard(o.Msgs)
	p.state(what)
}

func (p *pair) state(what string) {
	p.t.Helper()
	n, w := p.n, p.w
	if m, want := n.Meta(), (api.Meta{Boot: w.s.Started(), Epoch: w.epoch, Ready: w.ready, Frozen: w.frozen}); m != want {
		p.t.Fatalf("%s: Meta %+v, want %+v", what, m, want)
	}
	if r := n.Ring(); !slices.Equal(r.Nodes(), w.told) || r != nil && r.Epoch() != w.epoch {
		p.t.Fatalf("%s: a ring of %v, want %v", what, r.Nodes(), w.told)
	}
	if left := max(0, w.until-w.c.Now()); n.Left() != left || n.Now() != w.c.Now() || n.Good(w.epoch) != (left > 0 && w.leased == w.epoch) {
		p.t.Fatalf("%s: %d ticks left, want %d", what, n.Left(), left)
	}
	if !slices.Equal(n.Keys(), w.s.Keys()) || n.Seq() != w.s.Seq() || !slices.Equal(n.Reads(), w.reads()) {
		p.t.Fatalf("%s: Keys %v, Seq %d, Reads %v, want %v, %d, %v", what, n.Keys(), n.Seq(), n.Reads(), w.s.Keys(), w.s.Seq(), w.reads())
	}
	for _, key := range p.r.keys {
		x, ok := n.Get(key, 0)
		if y, is := w.s.Get(key, 0); x != y || ok != is {
			p.t.Fatalf("%s: %s is %v, want %v", what, key, x, y)
		}
		if n.Serves(key) != w.serves(key) {
			p.t.Fatalf("%s: serves %s: %v", what, key, n.Serves(key))
		}
	}
}

func (p *pair) some() {
	r, n, w := p.r, p.n, p.w
	p.last = node.Out{}
	switch k := r.IntN(200); {
	case k < 120:
		m := r.msg()
		w.step(m)
		p.same("Step "+told(m), n.Step(m))
	case k < 140:
		w.beat()
		p.same("Beat", n.Beat())
	case k < 150:
		ticks := []int64{1, 1, 1, 1, 1, 1, 3, 19, 20, 59, 60}[r.IntN(11)]
		w.c.Tick(ticks)
		n.Tick(ticks)
	case k < 180:
		x := wait{from: -1, id: r.Int64N(100), op: r.op(), key: r.key()}
		w.ask(x)
		p.same(fmt.Sprintf("Ask %+v", x), n.Ask(x.id, x.op, x.key))
	case k < 195:
		i, val, has := r.IntN(6)-1, fmt.Sprint(r.IntN(100)), r.IntN(5) > 0
		if i >= 0 && i < len(w.reads()) {
			w.read(i, val, has)
		}
		p.same(fmt.Sprintf("Read(%d, %s, %v)", i, val, has), n.Read(i, val, has))
	case k < 196:
		p.n, p.d = again(p.t, n, w.id, p.d)
		w.d = w.d.Crash()
		s, err := store.Open(w.d)
		if err != api.OK {
			p.t.Fatal(err)
		}
		p.w = &ref{id: w.id, s: s, d: w.d, c: w.c, epoch: w.epoch, ready: w.ready, frozen: w.frozen}
		p.r.w = p.w
		p.state("Open")
	default:
		key := r.keys[r.IntN(len(r.keys))]
		fill(p.t, n, key)
		w.s.Put(item(key))
		w.s.Flush()
	}
}

// P24.1 to P24.3: long runs of calls drawn at random, crashes too, held against the reference one by one.
func TestRuns(t *testing.T) {
	t.Parallel()
	seen := map[string]int{}
	for seed := range uint64(250) {
		p := newPair(t, seed)
		for range 250 {
			was := *p.w
			p.some()
			switch w := p.w; {
			case w.epoch > was.epoch && w.epoch == was.ready:
				seen["adopted, prepared"]++
			case w.epoch > was.epoch:
				seen["adopted, wiped"]++
			case was.ready != 0 && w.ready == 0:
				seen["given up"]++
			case w.frozen && !was.frozen:
				seen["frozen"]++
			case w.s != was.s:
				seen["started"]++
			case len(w.told) > 0 && len(was.told) == 0:
				seen["a ring behind a start"]++
			case w.knows() && len(w.outs) > 0 && w.all(true):
				seen["Done"]++
			}
			for _, reply := range p.last.Replies {
				seen[fmt.Sprintf("told %d, %d, %v", reply.Op, reply.Err, reply.Has)]++
			}
			for _, m := range p.last.Msgs {
				seen[fmt.Sprintf("said %d", m.Kind)]++
			}
		}
	}
	for what, least := range map[string]int{
		"adopted, prepared": 100, "adopted, wiped": 100, "given up": 100, "frozen": 200, "started": 50, "a ring behind a start": 30, "Done": 100,
		"told 1, 0, true": 200, "told 1, 0, false": 50, "told 2, 0, false": 200, "told 1, 6, false": 200, "told 1, 10, false": 50, "told 1, 1, false": 50,
		"said 4": 500, "said 5": 200, "said 6": 200, "said 8": 30, "said 9": 10, "said 10": 200, "said 13": 500, "said 14": 500,
	} {
		if seen[what] < least {
			t.Errorf("%s: only %d times", what, seen[what])
		}
	}
}
