package causal_test

import (
	"math/rand/v2"
	"slices"
	"testing"

	"stemma/api"
	"stemma/causal"
	"stemma/ops"
)

// maker is a replica that makes operations and takes others'.
type maker struct {
	id    int
	knows []api.Op
}

// anyOp is an operation of any kind by somebody who knows what a maker knows.
func (m *maker) anyOp(r *rand.Rand) api.Op {
	known := knownOf(m.knows)
	o := typed(at(slices.Max(known[:])+1+r.IntN(3)/2, m.id))
	o.Deps = known
	if len(m.knows) == 0 {
		return o
	}
	bare := api.Op{ID: o.ID, Deps: known}
	one, other := m.knows[r.IntN(len(m.knows))].ID, m.knows[r.IntN(len(m.knows))].ID
	switch bare.Kind = api.Kind(1 + r.IntN(5)); bare.Kind {
	case api.Insert:
		bare.Ref, bare.Side, bare.Ch = one, api.Left, 'x'
	case api.Delete:
		bare.Ref = one
	case api.Move:
		bare.Ref, bare.Key = one, "k"
	case api.Set:
		bare.Ref, bare.Name = one, "kind"
	case api.Mark:
		bare.From.ID, bare.To.ID, bare.Name = one, other, "bold"
	}
	return bare
}

// hear takes what another one knows, up to some of it.
func (m *maker) hear(from *maker, upTo int) {
	for _, o := range from.knows[:min(upTo, len(from.knows))] {
		if !among(m.knows, o.ID) {
			m.knows = append(m.knows, o)
		}
	}
}

// grown is a set that some replicas made, each knowing what it made itself and what it took from others at times: in the order in which they made it.
func grown(r *rand.Rand, replicas, size int) []api.Op {
	var all []api.Op
	makers := make([]maker, replicas)
	for i := range makers {
		makers[i].id = 7 - i
	}
	for len(all) < size {
		m := &makers[r.IntN(replicas)]
		if r.IntN(4) == 0 {
			m.hear(&makers[r.IntN(replicas)], 1+r.IntN(size))
			continue
		}
		o := m.anyOp(r)
		m.knows, all = append(m.knows, o), append(all, o)
	}
	return all
}

// jostled is a list in which each stands at most about so many places from where it stood.
func jostled(r *rand.Rand, l []api.Op, far int) []api.Op {
	type placed struct {
		o     api.Op
		place int
	}
	var p []placed
	for i, o := range l {
		p = append(p, placed{o, i + r.IntN(far)})
	}
	slices.SortStableFunc(p, func(a, b placed) int { return a.place - b.place })
	var out []api.Op
	for _, x := range p {
		out = append(out, x.o)
	}
	return out
}

// orders goes through all orders of a list.
func orders(l []api.Op) func(func([]api.Op) bool) {
	return func(yield func([]api.Op) bool) {
		var order func(n int) bool
		order = func(n int) bool {
			if n == len(l) {
				return yield(slices.Clone(l))
			}
			for i := n; i < len(l); i++ {
				l[n], l[i] = l[i], l[n]
				on := order(n + 1)
				l[n], l[i] = l[i], l[n]
				if !on {
					return false
				}
			}
			return true
		}
		order(0)
	}
}

// checkCauses holds P10.2 of what was delivered, in order.
func checkCauses(t *testing.T, all []api.Op) {
	t.Helper()
	if !ops.Closed(all) {
		t.Fatalf("%s is not closed", brief(all))
	}
	ahead := map[api.Stamp]bool{}
	var last api.Vector
	for _, o := range all {
		for r, n := range o.Deps {
			if n != 0 && !ahead[at(n, r)] {
				t.Fatalf("%d.%d is not ahead of %+v", n, r, o)
			}
		}
		if o.ID.N <= last[o.ID.R] || o.Deps[o.ID.R] != last[o.ID.R] {
			t.Fatalf("%+v is behind %d", o, last[o.ID.R])
		}
		ahead[o.ID], last[o.ID.R] = true, o.ID.N
	}
}

// checkWhole holds that just these were delivered, in the order of causes, and that nothing pends.
func checkWhole(t *testing.T, s *causal.Store, set []api.Op) {
	t.Helper()
	all := s.All()
	checkCauses(t, all)
	if got, want := ops.Sort(all), ops.Sort(set); !slices.Equal(got, want) {
		t.Fatalf("delivered were %v, not %v", ids(got), ids(want))
	}
	if p := s.Pending(); len(p) != 0 {
		t.Fatalf("%v pend", ids(p))
	}
	if s.Known() != knownOf(set) {
		t.Fatalf("Known: %v", s.Known())
	}
}

// P10.2, P10.3: operations of each kind in all orders.
func TestAllOrders(t *testing.T) {
	var n tally
	for order := range orders(story()) {
		checkWhole(t, play(t, order, &n), story())
	}
	if n.errors[api.OK] != 7*5040 || n.delivered != 7*5040 {
		t.Errorf("%v", &n)
	}
}

// P10.2, P10.3: small sets that replicas made, in all orders.
func TestAllOrdersOfGrown(t *testing.T) {
	r := rand.New(rand.NewPCG(10, 3))
	var n tally
	for range 100 {
		set := grown(r, 1+r.IntN(4), 1+r.IntN(6))
		for order := range orders(set) {
			checkWhole(t, play(t, order, &n), set)
		}
	}
}

// P10.2, P10.3: sets of at most MaxPending that replicas made, in many orders: there is room for each.
func TestAnyOrder(t *testing.T) {
	r := rand.New(rand.NewPCG(10, 4))
	var n tally
	for range 400 {
		set := grown(r, 1+r.IntN(8), 1+r.IntN(65))
		order := jostled(r, set, 100000)
		checkWhole(t, play(t, order, &n), set)
		slices.Reverse(set)
		checkWhole(t, play(t, set, &n), set)
	}
	if n.several < 1000 || n.waits < 1000 || n.dropped > 0 || len(n.errors) != 1 {
		t.Errorf("%v", &n)
	}
}

// P10.2, P10.3: greater sets, of which some are refused for want of room, and are added once more later on.
func TestAnyOrderAgain(t *testing.T) {
	r := rand.New(rand.NewPCG(10, 5))
	refused := 0
	for range 30 {
		set := grown(r, 1+r.IntN(8), 500)
		s := causal.New()
		for left := jostled(r, set, 1+r.IntN(500)); len(left) > 0; {
			var again []api.Op
			for _, o := range left {
				switch _, e := s.Add(o); e {
				case api.OK:
				case api.ErrPending:
					again = append(again, o)
					refused++
				default:
					t.Fatalf("%+v: %v", o, e)
				}
			}
			if len(again) == len(left) {
				t.Fatalf("%d are refused again and again", len(left))
			}
			left = again
			checkCauses(t, s.All())
		}
		checkWhole(t, s, set)
	}
	if refused < 100 {
		t.Errorf("only %d were refused", refused)
	}
}

// P10.3: as many as there may be, of all replicas, turned round as far as there is room.
func TestAsManyAsMayBe(t *testing.T) {
	r := rand.New(rand.NewPCG(10, 6))
	var set []api.Op
	var known api.Vector
	for n := range api.MaxOps {
		o := typed(at(n+1, r.IntN(8)))
		o.Deps = known
		known[o.ID.R] = o.ID.N
		set = append(set, o)
	}
	var order []api.Op
	for some := range slices.Chunk(set, 65) {
		slices.Reverse(some)
		order = append(order, some...)
	}
	s := causal.New()
	for _, o := range order {
		if _, e := s.Add(o); e != api.OK {
			t.Fatalf("%+v: %v", o, e)
		}
	}
	checkWhole(t, s, set)
	refuses(t, s, typed(at(4001, 0), at(known[0], 0)), api.ErrFull)
}

// P10.3: two replicas that were given the same in different orders have the same; each lacks nothing of the other one.
func TestNothingMissing(t *testing.T) {
	r := rand.New(rand.NewPCG(10, 7))
	for range 100 {
		set := grown(r, 1+r.IntN(8), 60)
		a, b := given(jostled(r, set, 100)...), given(jostled(r, set, 100)...)
		if a.Known() != b.Known() || !slices.Equal(ops.Sort(a.All()), ops.Sort(b.All())) {
			t.Fatalf("%v, %v", a.Known(), b.Known())
		}
		if l := a.Missing(b.Known(), api.MaxOps); len(l) != 0 {
			t.Fatalf("%v are missing", ids(l))
		}
	}
}

// K2, P10.3: what one lacks of another one, so many at a time, is delivered one by one; so they come to have the same.
func TestMissingIsTaken(t *testing.T) {
	r := rand.New(rand.NewPCG(10, 8))
	for most := 1; most < 60; most += 1 + most/3 {
		set := grown(r, 1+r.IntN(8), 120)
		from, to := given(set...), given(set[:r.IntN(60)]...)
		for range 120 {
			for _, o := range from.Missing(to.Known(), most) {
				adds(t, to, o, o)
			}
		}
		checkWhole(t, to, set)
	}
}
