package control_test

import (
	"fmt"
	"math/rand/v2"
	"slices"
	"testing"

	"icehouse/api"
	"icehouse/clock"
	"icehouse/control"
	"icehouse/dev"
	"icehouse/msg"
)

// The reference below is written from the chapter. It keeps who is a member place by place, and all that was heard.

// ref is an authority.
type ref struct {
	epoch, top int64
	in         [6]bool // the members
	now        int64
	grants     [6][]int64 // when each node was granted something
	under      int64
	then       [6]bool // the members to come
	lost       int
	heard      []api.Msg // since the change began: answers of its number, each in its phase
}

func list(in [6]bool) []int {
	var out []int
	for n, is := range in {
		if is {
			out = append(out, n)
		}
	}
	return out
}

// open is what r is behind a crash, on a clock that stands at now.
func (r *ref) open(now int64) {
	*r = ref{epoch: r.epoch, top: r.top, in: r.in, now: now}
	for n := 1; n <= 5; n++ {
		r.grants[n] = []int64{now}
	}
}

func (r *ref) both() []int {
	var in [6]bool
	for n := range in {
		in[n] = r.in[n] || r.then[n]
	}
	return list(in)
}

func (r *ref) nodes() []int {
	return slices.DeleteFunc(r.both(), func(n int) bool { return n == r.lost })
}

// have tells whether an answer of the kind has come of all its nodes.
func (r *ref) have(kind int) bool {
	for _, n := range r.nodes() {
		if !slices.ContainsFunc(r.heard, func(m api.Msg) bool { return m.Kind == kind && m.From == n }) {
			return false
		}
	}
	return true
}

func (r *ref) phase() int {
	if !r.have(api.MPrepared) {
		return 1
	}
	if !r.have(api.MFrozen) {
		return 2
	}
	return 3
}

func (r *ref) time() bool {
	if r.lost == 0 || len(r.grants[r.lost]) == 0 {
		return true
	}
	return r.now-slices.Max(r.grants[r.lost]) >= 40
}

func (r *ref) beat() []api.Msg {
	if r.under == 0 {
		return nil
	}
	switch r.phase() {
	case 1:
		return asks(api.MPrepare, r.under, list(r.then), r.epoch, list(r.in), r.nodes()...)
	case 2:
		return asks(api.MFreeze, r.under, list(r.then), r.epoch, list(r.in), r.nodes()...)
	}
	if !r.time() {
		return nil
	}
	to := r.both()
	r.epoch, r.in = r.under, r.then
	r.under, r.lost, r.heard = 0, 0, nil
	return commits(r.epoch, list(r.in), to...)
}

func (r *ref) begin(name string, node int) ([]api.Msg, api.Errno) {
	if r.under != 0 {
		return nil, api.ErrBusy
	}
	if node < 1 || node > 5 || r.in[node] == (name == "Join") {
		return nil, api.ErrForm
	}
	if name != "Join" && len(list(r.in)) == 1 {
		return nil, api.ErrForm
	}
	r.top++
	r.under, r.then, r.heard = r.top, r.in, nil
	r.then[node] = name == "Join"
	if name == "Lose" {
		r.lost = node
	}
	return r.beat(), api.OK
}

func (r *ref) back() ([]api.Msg, api.Errno) {
	if r.under == 0 {
		return nil, api.ErrNone
	}
	out := aborts(r.under, r.nodes()...)
	r.under, r.lost, r.heard = 0, 0, nil
	return out, api.OK
}

func (r *ref) step(m api.Msg) []api.Msg {
	if !msg.May(m) || m.To != 0 {
		return nil
	}
	if m.Kind == api.MRenew {
		return r.renew(m)
	}
	if r.under == 0 || m.Epoch != r.under {
		return nil
	}
	phase := r.phase()
	if phase == 1 && m.Kind == api.MPrepared && m.Last || phase == 2 && m.Kind == api.MFrozen {
		r.heard = append(r.heard, m)
	}
	if r.phase() != phase {
		return r.beat()
	}
	return nil
}

func (r *ref) renew(m api.Msg) []api.Msg {
	var out []api.Msg
	if m.Seq > r.epoch && m.Seq != r.under {
		out = aborts(m.Seq, m.From)
	}
	if r.in[m.From] && r.lost != m.From {
		r.grants[m.From] = append(r.grants[m.From], r.now)
		return append(out, grant(m.From, m.Tick, r.epoch, list(r.in)...))
	}
	if m.Epoch < r.epoch {
		out = append(out, commits(r.epoch, list(r.in), m.From)...)
	}
	return out
}

// drawn is a message that may matter now: mostly of what is under way, sometimes of anything.
func drawn(r *rand.Rand, w *ref) api.Msg {
	number := w.under
	if r.IntN(4) == 0 {
		number = r.Int64N(w.top + 3)
	}
	m := api.Msg{From: 1 + r.IntN(5), Epoch: number, Last: r.IntN(8) > 0}
	switch r.IntN(10) {
	case 0, 1:
		m.Kind = api.MRenew
		m.Tick, m.Epoch, m.Seq = r.Int64N(50), w.epoch-1+r.Int64N(3), number
	case 2:
		m.Kind = r.IntN(16)
	case 3:
		m.Kind = api.MFrozen
	default:
		m.Kind = []int{api.MPrepared, api.MPrepared, api.MFrozen, api.MFrozen}[w.phase()]
	}
	if r.IntN(30) == 0 {
		m.To = r.IntN(6)
	}
	if r.IntN(30) == 0 {
		m.N = -1
	}
	return m
}

// walk is a Control and what it should be.
type walk struct {
	t *testing.T
	r *rand.Rand
	c *control.Control
	d *dev.Dev
	w ref
}

func (k *walk) some() {
	r, c, w := k.r, k.c, &k.w
	switch n := r.IntN(200); {
	case n < 140:
		m := drawn(r, w)
		is(k.t, fmt.Sprintf("Step(%v)", m), c.Step(m), w.step(m)...)
	case n < 160:
		is(k.t, "Beat", c.Beat(), w.beat()...)
	case n < 176:
		ticks := []int64{1, 1, 5, 20, 39, 40}[r.IntN(6)]
		w.now = c.Tick(ticks)
	case n < 194:
		x, node := changes[r.IntN(3)], r.IntN(7)
		l, err := x.begin(c, node)
		want, wantErr := w.begin(x.name, node)
		is(k.t, x.name, l, want...)
		if err != wantErr {
			k.t.Fatalf("%s(%d): %v, want %v", x.name, node, err, wantErr)
		}
	case n < 197:
		l, err := c.Back()
		want, wantErr := w.back()
		is(k.t, "Back", l, want...)
		if err != wantErr {
			k.t.Fatalf("Back: %v, want %v", err, wantErr)
		}
	default:
		k.d = k.d.Crash(r.IntN(2) == 0, r.IntN(2) == 0)
		t := &clock.Clock{}
		if r.IntN(2) == 0 {
			t = c.Clock
		}
		k.c = opened(k.t, k.d, t)
		w.open(t.Now())
	}
}

// P23.1 to P23.3: long runs of calls drawn at random, crashes too, held against the reference one by one.
func TestWalks(t *testing.T) {
	t.Parallel()
	committed, waited := int64(0), 0
	for seed := range uint64(300) {
		r := rand.New(rand.NewPCG(23, seed))
		nodes := rings()[seed%31]
		c, d := made(t, nodes...)
		k := &walk{t: t, r: r, c: c, d: d, w: ref{epoch: 1, top: 1}}
		for _, n := range nodes {
			k.w.in[n] = true
		}
		for range 600 {
			epoch := k.w.epoch
			k.some()
			check(t, fmt.Sprint("walk ", seed), k.c, k.w.epoch, k.w.under, list(k.w.in)...)
			if k.c.Now() != k.w.now {
				t.Errorf("its clock: %d, want %d", k.c.Now(), k.w.now)
			}
			if t.Failed() {
				t.FailNow()
			}
			if k.w.epoch > epoch {
				committed++
			}
			if k.w.under != 0 && k.w.phase() == 3 {
				waited++
			}
		}
	}
	if committed < 500 || waited < 500 {
		t.Errorf("only %d were committed, only %d waited", committed, waited)
	}
}

// P23.2: nodes that answer in any order, each several times, over a way that loses: Beat asks until all have answered.
func TestInTheEnd(t *testing.T) {
	for seed := range uint64(200) {
		r := rand.New(rand.NewPCG(23, 1000+seed))
		c, _ := made(t, 1, 2, 3, 4)
		c.Step(renew(4, 1, 0))
		x := changes[seed%3]
		l, _ := x.begin(c, map[string]int{"Join": 5, "Leave": 4, "Lose": 4}[x.name])
		for n := 0; c.Under() != 0; n++ {
			if n > 500 {
				t.Fatalf("P23.2: %s never ends: %v", x.name, l)
			}
			r.Shuffle(len(l), func(i, j int) { l[i], l[j] = l[j], l[i] })
			for _, m := range l {
				if r.IntN(3) == 0 {
					c.Step(map[int]api.Msg{api.MPrepare: prepared(m.To, m.Epoch), api.MFreeze: frozen(m.To, m.Epoch)}[m.Kind])
				}
			}
			c.Tick()
			l = c.Beat()
		}
		check(t, "P23.2: in the end", c, 2, 0, map[string][]int{"Join": {1, 2, 3, 4, 5}, "Leave": {1, 2, 3}, "Lose": {1, 2, 3}}[x.name]...)
	}
}
