package node_test

import (
	"fmt"
	"math"
	"math/rand/v2"
	"slices"
	"strings"
	"testing"

	"icehouse/api"
	"icehouse/msg"
)

// P0.3: what is handed in is neither changed nor kept; what is answered is new memory.
func TestMemory(t *testing.T) {
	n, _ := made(t, 1)
	members := append(make([]int, 0, 5), 1, 2)
	n.Step(grant(1, 0, 7, members...))
	members[0] = 2
	ringIs(t, "P0.3: MGrant", n, 7, 1, 2)
	n.Ring().Nodes()[0] = 5
	ringIs(t, "P0.3: Ring", n, 7, 1, 2)
	goes := mover(1, 3, 0, two, all3)
	fill(t, n, goes)
	old, next := append(make([]int, 0, 5), 1, 2), append(make([]int, 0, 5), 1, 2, 3)
	m := freeze(1, 9, 7, old, next)
	o := n.Step(m)
	if !slices.Equal(old[:5], []int{1, 2, 0, 0, 0}) || !slices.Equal(next[:5], []int{1, 2, 3, 0, 0}) {
		t.Errorf("P0.3: MFreeze: %v, %v", old[:5], next[:5])
	}
	old[0], next[2] = 5, 5
	if n.Serves(goes) || !n.Serves(mover(1, 1, 0, two, all3)) {
		t.Error("P0.3: MFreeze: the plan has changed")
	}
	o.Msgs[0].Items[0].Val = "changed"
	o.Msgs[0] = api.Msg{}
	b := n.Beat()
	want := items(1, 3, 9, boot+1, 0, 0, item(goes))
	is(t, "P0.3: Beat", b, renew(1, 0, 7, 9), want)
	_ = append(b.Msgs[:1], api.Msg{Kind: 99})
	b.Msgs[1].Items = append(b.Msgs[1].Items, api.Item{})
	is(t, "P0.3: Beat", n.Beat(), renew(1, 0, 7, 9), want)
	xs := append(make([]api.Item, 0, 4), item("x"))
	n, _ = member(t, 1, 7, 1, 2)
	comes := mover(2, 1, 0, two, one)
	n.Step(prepare(1, 9, 7, two, one))
	xs[0] = item(comes)
	n.Step(items(2, 1, 9, 5, 1, 0, xs...))
	xs[0].Val = "changed"
	if x, ok := n.Get(comes, 0); !ok || x != item(comes) || xs[:2][1] != (api.Item{}) {
		t.Errorf("P0.3: MItems: %v", x)
	}
}

// P0.1: messages of any fields: none panics; of those that may not be, or are another's, comes nothing.
func TestJunk(t *testing.T) {
	t.Parallel()
	numbers := []int64{0, 0, 1, 2, 7, 8, 9, boot + 1, api.MaxNum, api.MaxNum + 1, math.MaxInt64, math.MinInt64, -1}
	for seed := range uint64(40) {
		r := rand.New(rand.NewPCG(24, 9000+seed))
		n, _ := member(t, 1, 7, 1, 2)
		number := func() int64 { return numbers[r.IntN(len(numbers))] }
		nodes := func() []int { return [][]int{nil, one, two, all3, {1, 2, 3, 4, 5}, {2, 1}, {0}, {6}}[r.IntN(8)] }
		key := func() string {
			return []string{"", "a", "key1", "\xff", strings.Repeat("k", 40), strings.Repeat("k", 41)}[r.IntN(6)]
		}
		for range 400 {
			m := api.Msg{Kind: r.IntN(17) - 1, From: r.IntN(8) - 1, To: 1 - r.IntN(9)/8, Epoch: number(), Tick: number(), Seq: number(), N: int(number()), Id: number(), Op: int(number()), Key: key(), Err: api.Errno(r.IntN(13) - 1), Last: r.IntN(2) == 0, Members: nodes(), Base: number(), Old: nodes()}
			for range r.IntN(4) {
				// most of what may not be is what one field is for
				m.Tick, m.Seq, m.N, m.Id = max(0, m.Tick%9), max(0, m.Seq%9), max(0, m.N%3), max(0, m.Id%api.MaxNum)
				m.Items = append(m.Items, api.Item{Key: key(), Val: key(), Gone: r.IntN(9) == 0})
				m.Marks = append(m.Marks, api.Mark{Seq: number(), Key: key()})
			}
			was := n.Meta()
			o := n.Step(m)
			if !msg.May(m) || m.To != 1 {
				if len(o.Msgs)+len(o.Replies) > 0 || n.Meta() != was {
					t.Fatalf("P24.2: it may not be: %+v: %s", m, tell(o))
				}
			}
			for _, out := range o.Msgs {
				if !msg.May(out) {
					t.Fatalf("P24.2: it may not be: %s", told(out))
				}
			}
			n.Ask(number(), int(number()), key())
			n.Read(int(number()), key(), r.IntN(2) == 0)
			n.Beat()
			n.Serves(key())
			if r.IntN(9) == 0 {
				n.Tick(number() % 100)
			}
		}
	}
}

// Many asks at a time, told in any order, and many that are never told.
func TestMany(t *testing.T) {
	n, _ := member(t, 1, 7, 1, 2)
	mine, other := keyOf(1, 0, 1, 2), keyOf(2, 0, 1, 2)
	const many = 20000
	for i := range int64(many) {
		if o := n.Ask(i, api.OGet, other); len(o.Msgs) != 1 || o.Msgs[0].Id != boot+1+i {
			t.Fatalf("P24.3: %s", tell(o))
		}
		n.Ask(i, api.OGet, mine)
	}
	r := rand.New(rand.NewPCG(24, 0))
	for gone, i := range r.Perm(many) {
		if i%2 == 0 {
			is(t, "P24.2: MAnswer", n.Step(answers(2, 1, boot+1+int64(i), api.OK, item(other))), got(int64(i), other, "v "+other))
		}
		// of those that are left any one
		i = r.IntN(many - gone)
		if o := n.Read(i, "", false); len(o.Replies) != 1 {
			t.Fatalf("P24.3: Read(%d): %s", i, tell(o))
		}
	}
	readsAre(t, "P24.3: all are told", n)
	n.Tick(60)
	o := n.Beat()
	if len(o.Replies) != many/2 {
		t.Fatalf("P24.1: %d are told", len(o.Replies))
	}
	for i, x := range o.Replies {
		if x != refused(int64(2*i+1), api.OGet, other, api.ErrTime) {
			t.Fatalf("P24.1: %v", x)
		}
	}
	is(t, "P24.1: once", n.Beat(), renew(1, 60, 7, 0))
}

// A key that is a piece of a long text is told as any other.
func TestPieces(t *testing.T) {
	n, _ := member(t, 1, 7, 1)
	text := strings.Repeat("x", 1<<20) + "a key"
	n.Ask(1, api.OGet, text[1<<20:])
	readsAre(t, "P24.3: a piece", n, "a key")
	is(t, "P24.3: a piece", n.Read(0, text[1<<20-1:1<<20+1], true), got(1, "a key", "xa"))
	is(t, "P24.3: a piece", n.Ask(2, api.OGet, fmt.Sprint("a", " key")), got(2, "a key", "xa"))
}
