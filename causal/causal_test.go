package causal_test

import (
	"math"
	"slices"
	"testing"

	"stemma/api"
	"stemma/causal"
)

func at(n, r int) api.Stamp { return api.Stamp{N: n, R: r} }

// leaning is the numbers of some stamps.
func leaning(on ...api.Stamp) (v api.Vector) {
	for _, s := range on {
		v[s.R] = s.N
	}
	return v
}

// typed is an Insert at the text's beginning that leans on some stamps.
func typed(id api.Stamp, on ...api.Stamp) api.Op {
	return api.Op{ID: id, Deps: leaning(on...), Kind: api.Insert, Side: api.Right, Ch: 'a'}
}

// story is an operation of each kind, by three replicas, in the order of their causes, which is that of their stamps: the last two know nothing of one another.
func story() []api.Op {
	h, b := at(1, 0), at(2, 0)
	return []api.Op{
		typed(h),
		{ID: b, Deps: leaning(h), Kind: api.Insert, Ref: h, Side: api.Right},
		{ID: at(3, 1), Deps: leaning(b), Kind: api.Delete, Ref: h},
		{ID: at(4, 1), Deps: leaning(b, at(3, 1)), Kind: api.Move, Ref: b, Key: "m"},
		{ID: at(5, 2), Deps: leaning(b, at(4, 1)), Kind: api.Set, Ref: b, Name: "kind", Value: "para"},
		{ID: at(6, 0), Deps: leaning(b, at(5, 2)), Kind: api.Mark, Name: "bold", From: api.Anchor{ID: h}, To: api.Anchor{ID: b, After: true}},
		{ID: at(6, 1), Deps: leaning(b, at(4, 1), at(5, 2)), Kind: api.Move, Ref: b, Under: h, Key: "z1"},
	}
}

// chain are operations of one replica, each leaning on the one ahead.
func chain(r, from, to int) []api.Op {
	var l []api.Op
	for n := from; n <= to; n++ {
		o := typed(at(n, r))
		o.Deps[r] = n - 1
		l = append(l, o)
	}
	return l
}

// given is a store that was given operations, whatever it told of them.
func given(l ...api.Op) *causal.Store {
	s := causal.New()
	for _, o := range l {
		s.Add(o)
	}
	return s
}

func ids(l []api.Op) (out []api.Stamp) {
	for _, o := range l {
		out = append(out, o.ID)
	}
	return out
}

// check holds all that a store tells.
func check(t *testing.T, s *causal.Store, all, pending []api.Op) {
	t.Helper()
	if got := s.All(); !slices.Equal(got, all) {
		t.Fatalf("All: %v, not %v", ids(got), ids(all))
	}
	if got := s.Pending(); !slices.Equal(got, pending) {
		t.Fatalf("Pending: %v, not %v", ids(got), ids(pending))
	}
	if got := s.Known(); got != knownOf(all) {
		t.Fatalf("Known: %v, not %v", got, knownOf(all))
	}
	for _, v := range []api.Vector{{}, {0, 2}, knownOf(all)} {
		for _, most := range []int{1, len(all) + 1} {
			if got := s.Missing(v, most); !slices.Equal(got, missingOf(all, v, most)) {
				t.Fatalf("Missing(%v, %d): %v, not %v", v, most, ids(got), ids(missingOf(all, v, most)))
			}
		}
	}
}

// adds holds that Add delivers just these.
func adds(t *testing.T, s *causal.Store, o api.Op, want ...api.Op) {
	t.Helper()
	got, e := s.Add(o)
	if e != api.OK || !slices.Equal(got, want) {
		t.Fatalf("Add(%+v): %v, %v, not %v", o, ids(got), e, ids(want))
	}
}

// refuses holds that Add answers an error, and nothing beside it, and changes nothing.
func refuses(t *testing.T, s *causal.Store, o api.Op, want api.Errno) {
	t.Helper()
	all, pending := s.All(), s.Pending()
	if got, e := s.Add(o); e != want || len(got) != 0 {
		t.Fatalf("Add(%+v): %v, %v, not %v", o, ids(got), e, want)
	}
	check(t, s, all, pending)
}

// K1, K2: a store that has nothing.
func TestNew(t *testing.T) {
	s := causal.New()
	if s == nil {
		t.Fatal("New: nil")
	}
	check(t, s, nil, nil)
	adds(t, s, typed(at(1, 0)), typed(at(1, 0)))
	check(t, causal.New(), nil, nil)
}

// K1: operations of each kind in the order of their causes: each is ready, and delivered at once.
func TestInOrder(t *testing.T) {
	s := causal.New()
	for i, o := range story() {
		adds(t, s, o, o)
		check(t, s, story()[:i+1], nil)
	}
}

// K1: in the order turned round they pend; the first one makes all ready, one behind the other.
func TestTurnedRound(t *testing.T) {
	l := story()
	s := causal.New()
	for i := len(l) - 1; i > 0; i-- {
		adds(t, s, l[i])
		check(t, s, nil, l[i:])
	}
	adds(t, s, l[0], l...)
	check(t, s, l, nil)
}

// K1: one that lacks something in the middle pends, alone.
func TestGap(t *testing.T) {
	l := story()
	s := given(l[0], l[1], l[2])
	adds(t, s, l[4])
	adds(t, s, l[6])
	check(t, s, l[:3], []api.Op{l[4], l[6]})
	adds(t, s, l[3], l[3], l[4], l[6])
	adds(t, s, l[5], l[5])
	check(t, s, []api.Op{l[0], l[1], l[2], l[3], l[4], l[6], l[5]}, nil)
}

// K1: of an ID that was delivered or pends nothing is done, whatever else the operation is.
func TestTwice(t *testing.T) {
	l := story()
	s := given(l[0], l[1], l[3], l[5])
	pending := []api.Op{l[3], l[5]}
	for range 3 {
		for _, i := range []int{0, 1, 3, 5} {
			adds(t, s, l[i])
			adds(t, s, typed(l[i].ID))
			adds(t, s, typed(l[i].ID, at(l[i].ID.N-1, 7)))
			adds(t, s, api.Op{ID: l[i].ID, Deps: l[i].Deps, Kind: api.Insert, Side: api.Right, Ch: 'z'})
			check(t, s, l[:2], pending)
		}
	}
	// that pends which came first
	adds(t, s, l[2], l[2], l[3])
	adds(t, s, l[4], l[4], l[5])
	check(t, s, l[:6], nil)
}

// K1: late, for its Deps' number of its own replica is less than Known's: whether its ID is behind, between or ahead of what was delivered.
func TestLateOfItsOwn(t *testing.T) {
	for r := range api.MaxReplicas {
		l := []api.Op{typed(at(2, r)), typed(at(5, r), at(2, r))}
		s := given(l...)
		check(t, s, l, nil)
		for _, late := range []api.Op{
			typed(at(1, r)), typed(at(3, r)), typed(at(4, r)), typed(at(6, r)), typed(at(api.MaxCounter, r)),
			typed(at(3, r), at(2, r)), typed(at(6, r), at(2, r)), typed(at(99, r), at(4, r)),
			typed(at(6, r), at(2, r), at(5, (r+1)%8)), // it lacks something besides
		} {
			refuses(t, s, late, api.ErrFork)
		}
		other := (r + 3) % 8
		adds(t, s, typed(at(1, other)), typed(at(1, other))) // of another replica it is not
		adds(t, s, typed(at(6, r), at(5, r)), typed(at(6, r), at(5, r)))
	}
}

// K1: its Deps' number of its own replica is above Known's: it pends.
func TestAheadOfItsOwn(t *testing.T) {
	for r := range api.MaxReplicas {
		s := given(typed(at(2, r)))
		next, behind := typed(at(3, r), at(2, r)), typed(at(4, r), at(3, r))
		far := typed(at(9, r), at(5, r))
		adds(t, s, far)
		adds(t, s, behind)
		check(t, s, []api.Op{typed(at(2, r))}, []api.Op{behind, far})
		adds(t, s, next, next, behind)
		check(t, s, []api.Op{typed(at(2, r)), next, behind}, []api.Op{far})
	}
}

// K1: late, for a stamp that its Deps tell was not delivered, and its number is not above Known's of that replica.
func TestLateOfAnother(t *testing.T) {
	for r := range api.MaxReplicas {
		other, third := (r+1)%8, (r+5)%8
		l := []api.Op{typed(at(2, other)), typed(at(5, other), at(2, other))}
		s := given(l...)
		for _, n := range []int{1, 3, 4} {
			refuses(t, s, typed(at(9, r), at(n, other)), api.ErrFork)
			refuses(t, s, typed(at(9, r), at(n, other), at(1, third)), api.ErrFork) // it lacks something besides, that may come
		}
		waits := typed(at(9, third), at(6, other))
		adds(t, s, waits)
		check(t, s, l, []api.Op{waits})
		on2, on5 := typed(at(9, r), at(2, other)), typed(at(10, r), at(5, other), at(9, r))
		adds(t, s, on2, on2)
		adds(t, s, on5, on5)
		check(t, s, append(l, on2, on5), []api.Op{waits})
	}
}

// K1: each number of Deps counts: as long as one of them lacks, it is not ready.
func TestEachOfDeps(t *testing.T) {
	for own := range api.MaxReplicas {
		o := typed(at(9, own))
		var firsts []api.Op
		for r := range api.MaxReplicas {
			o.Deps[r] = r + 1
			firsts = append(firsts, typed(at(r+1, r)))
		}
		for lacks := range api.MaxReplicas {
			s := given(slices.Delete(slices.Clone(firsts), lacks, lacks+1)...)
			adds(t, s, o)
			adds(t, s, firsts[lacks], firsts[lacks], o)
		}
		adds(t, given(firsts...), o, o)
	}
}

// K1: numbers that no operation bears: it pends, till it is late.
func TestDepsOfNoOperation(t *testing.T) {
	o := typed(at(9, 3), at(4, 1))
	s := given(chain(1, 1, 1)...)
	adds(t, s, o)
	l := append(chain(1, 1, 1), typed(at(3, 1), at(1, 1)))
	adds(t, s, l[1], l[1])
	check(t, s, l, []api.Op{o})
	l = append(l, typed(at(5, 1), at(3, 1))) // there is no 4.1, and there will be none
	adds(t, s, l[2], l[2])
	check(t, s, l, nil)
	refuses(t, s, o, api.ErrFork)
}

// K1: of several that are ready the first by its stamp is delivered, each time: the counter first, then the replica; what one makes ready is one of them.
func TestFirstByStamp(t *testing.T) {
	first := typed(at(1, 4))
	a, b := typed(at(2, 7), first.ID), typed(at(3, 0), first.ID)
	c, d, e := typed(at(3, 2), a.ID), typed(at(4, 1), first.ID), typed(at(4, 6), b.ID)
	f, g := typed(at(5, 0), d.ID, b.ID), typed(at(5, 3), c.ID)
	want := []api.Op{first, a, b, c, d, e, f, g}
	for _, order := range [][]api.Op{
		{a, b, c, d, e, f, g}, {g, f, e, d, c, b, a}, {e, g, b, a, d, f, c}, {c, g, a, f, d, e, b},
	} {
		s := given(order...)
		check(t, s, nil, want[1:])
		adds(t, s, first, want...)
		check(t, s, want, nil)
	}
	// one that is ready by itself goes ahead of all of them, whatever its stamp is
	late := typed(at(8, 0))
	on := []api.Op{typed(at(9, 0), late.ID), typed(at(9, 1), late.ID), typed(at(10, 7), late.ID)}
	s := given(on[2], on[0], on[1])
	adds(t, s, late, late, on[0], on[1], on[2])
}

// K1: of what pends only that is delivered which is ready.
func TestSomeReady(t *testing.T) {
	a, b := typed(at(1, 0)), typed(at(1, 1))
	onA, onB, onBoth, onNone := typed(at(2, 2), a.ID), typed(at(2, 3), b.ID), typed(at(2, 4), a.ID, b.ID), typed(at(2, 5), at(1, 6))
	s := given(onNone, onBoth, onB, onA)
	adds(t, s, b, b, onB)
	check(t, s, []api.Op{b, onB}, []api.Op{onA, onBoth, onNone})
	adds(t, s, a, a, onA, onBoth)
	check(t, s, []api.Op{b, onB, a, onA, onBoth}, []api.Op{onNone})
}

// K1: what pends and is made late is dropped: it may be added again, and is ErrFork then.
func TestDropped(t *testing.T) {
	first := typed(at(2, 0))
	ofItsOwn := typed(at(6, 0), at(2, 0), at(5, 1))  // behind 2.0
	ofAnother := typed(at(7, 2), at(3, 0), at(5, 1)) // leans on a 3.0
	waits := typed(at(8, 3), at(5, 1))
	far := typed(at(9, 0), at(6, 0)) // leans on a 6.0
	s := given(first, far, waits, ofAnother, ofItsOwn)
	check(t, s, []api.Op{first}, []api.Op{ofItsOwn, ofAnother, waits, far})
	next := typed(at(4, 0), at(2, 0)) // so there is no 3.0, and nothing else is right behind 2.0
	adds(t, s, next, next)
	check(t, s, []api.Op{first, next}, []api.Op{waits, far})
	for range 2 {
		refuses(t, s, ofItsOwn, api.ErrFork)
		refuses(t, s, ofAnother, api.ErrFork)
	}
	// its ID is free
	another := typed(at(6, 0), at(4, 0))
	adds(t, s, another, another, far)
	check(t, s, []api.Op{first, next, another, far}, []api.Op{waits})
}

// K1: what is delivered in the same call makes late, too; what is dropped is not told.
func TestDroppedByWhatPended(t *testing.T) {
	a, b, c := typed(at(1, 0)), typed(at(2, 1), at(1, 0)), typed(at(3, 1), at(2, 1))
	fork := typed(at(4, 1), at(2, 1), at(3, 7))
	first := typed(at(5, 1), at(3, 7)) // nothing of 1 is ahead of it
	onFork := typed(at(9, 2), at(1, 1))
	s := given(c, fork, first, b, onFork)
	check(t, s, nil, []api.Op{b, c, fork, first, onFork})
	adds(t, s, a, a, b, c)
	check(t, s, []api.Op{a, b, c}, nil)
	for _, o := range []api.Op{fork, first, onFork} {
		refuses(t, s, o, api.ErrFork)
	}
}

// K1: two that lean on the same of their own replica: the first by its stamp is delivered, the other one is dropped.
func TestForkThatPends(t *testing.T) {
	a := typed(at(1, 3))
	one, two := typed(at(2, 3), a.ID), typed(at(3, 3), a.ID)
	on1, on2 := typed(at(4, 0), one.ID), typed(at(4, 1), two.ID)
	s := given(two, on2, on1, one)
	check(t, s, nil, []api.Op{one, two, on1, on2})
	adds(t, s, a, a, one, on1)
	check(t, s, []api.Op{a, one, on1}, []api.Op{on2}) // a 3.3 may come yet
	refuses(t, s, two, api.ErrFork)
	another := typed(at(3, 3), one.ID)
	adds(t, s, another, another, on2)
}

// waiting are operations that wait for what replica 7 makes with the counter 1, and so on.
func waiting(n int) []api.Op {
	return chain(7, 2, n+1)
}

// K1: MaxPending that pend, one fewer, one more.
func TestMaxPending(t *testing.T) {
	l := waiting(api.MaxPending + 1)
	s := causal.New()
	for i, o := range l[:64] {
		adds(t, s, o)
		check(t, s, nil, l[:i+1])
	}
	refuses(t, s, l[64], api.ErrPending)
	refuses(t, s, typed(at(2, 0), at(1, 1)), api.ErrPending)
	// nothing is done of those that are there; what is ready is delivered, what is late is late
	adds(t, s, l[63])
	adds(t, s, typed(l[0].ID))
	two := typed(at(2, 0))
	adds(t, s, two, two)
	refuses(t, s, typed(at(3, 0)), api.ErrFork)
	refuses(t, s, api.Op{}, api.ErrOp)
	check(t, s, []api.Op{two}, l[:64])
	// what is delivered makes room
	one := typed(at(1, 7))
	adds(t, s, one, append([]api.Op{one}, l[:64]...)...)
	adds(t, s, l[64], l[64])
	check(t, s, append([]api.Op{two, one}, l...), nil)
}

// K1: what is dropped makes room for others that pend.
func TestDropMakesRoom(t *testing.T) {
	forks := []api.Op{typed(at(3, 7), at(1, 6)), typed(at(4, 7), at(1, 6))}
	l := waiting(66)[3:]
	s := given(append(forks, l[:62]...)...)
	check(t, s, nil, append(forks, l[:62]...))
	refuses(t, s, l[62], api.ErrPending)
	one := typed(at(1, 7))
	adds(t, s, one, one)
	check(t, s, []api.Op{one}, l[:62])
	more := typed(at(2, 2), at(1, 3))
	adds(t, s, l[62])
	adds(t, s, more)
	check(t, s, []api.Op{one}, append([]api.Op{more}, l[:63]...))
	refuses(t, s, typed(at(2, 3), at(1, 4)), api.ErrPending)
}

// K1: MaxOps that were delivered, one fewer, one more.
func TestMaxOps(t *testing.T) {
	l := chain(0, 1, api.MaxOps+1)
	s := given(l[:3998]...)
	adds(t, s, l[3998], l[3998])
	adds(t, s, l[3999], l[3999])
	check(t, s, l[:4000], nil)
	refuses(t, s, l[4000], api.ErrFull)
	refuses(t, s, typed(at(1, 1)), api.ErrFull)
	refuses(t, s, typed(at(2, 1), at(1, 1)), api.ErrFull)
	// what is named ahead of it
	refuses(t, s, typed(at(4002, 0)), api.ErrFork)
	refuses(t, s, typed(at(0, 0)), api.ErrOp)
	adds(t, s, l[7])
	adds(t, s, l[3999])
	check(t, s, l[:4000], nil)
}

// K1: MaxOps, delivered and pending together.
func TestMaxOpsWithPending(t *testing.T) {
	l, w := chain(0, 1, api.MaxOps), waiting(64)
	full := given(append(slices.Clone(w), l[:3936]...)...)
	check(t, full, l[:3936], w)
	refuses(t, full, l[3936], api.ErrFull)
	refuses(t, full, typed(at(9, 1), at(8, 2)), api.ErrFull) // ahead of ErrPending
	refuses(t, full, typed(at(1, 7)), api.ErrFull)           // though it is what all the others wait for
	refuses(t, full, typed(at(9000, 0)), api.ErrFork)
	adds(t, full, w[63])

	fewer := given(append(slices.Clone(w), l[:3935]...)...)
	refuses(t, fewer, typed(at(9, 1), at(8, 2)), api.ErrPending)
	one := typed(at(1, 7))
	adds(t, fewer, one, append([]api.Op{one}, w...)...)
	check(t, fewer, slices.Concat(l[:3935], []api.Op{one}, w), nil)
	refuses(t, fewer, l[3935], api.ErrFull)

	room := given(append(slices.Clone(w[:62]), l[:3937]...)...)
	adds(t, room, w[62])
	refuses(t, room, w[63], api.ErrFull) // one that pends counts as one that was delivered
	refuses(t, room, l[3937], api.ErrFull)
}

// K1: ErrFull is asked ahead of what would be dropped; what was dropped counts no more.
func TestFullAndDropped(t *testing.T) {
	l := chain(0, 1, api.MaxOps)
	fork := typed(at(9000, 0), at(3998, 0), at(1, 1))
	other := typed(at(9000, 1), at(8, 2))
	full := given(append(slices.Clone(l[:3998]), fork, other)...)
	refuses(t, full, l[3998], api.ErrFull)
	room := given(append(slices.Clone(l[:3998]), fork)...)
	adds(t, room, l[3998], l[3998])
	check(t, room, l[:3999], nil)
	adds(t, room, l[3999], l[3999])
	refuses(t, room, other, api.ErrFull)
}

// K2: Missing, with a vector that has none, some, all, and numbers that no operation bears; with each most.
func TestMissing(t *testing.T) {
	l := story()
	s := given(l...)
	five, six := l[5], l[6]
	for _, c := range []struct {
		v    api.Vector
		want []api.Op
	}{
		{api.Vector{}, l},
		{api.Vector{1}, l[1:]},
		{api.Vector{2}, l[2:]},
		{api.Vector{5}, l[2:]}, // 6.0 is still lacking
		{api.Vector{6}, []api.Op{l[2], l[3], l[4], six}},
		{api.Vector{0, 6}, []api.Op{l[0], l[1], l[4], five}},
		{api.Vector{2, 4, 5}, []api.Op{five, six}},
		{api.Vector{2, 4, 4}, []api.Op{l[4], five, six}},
		{api.Vector{6, 6, 5}, nil},
		{api.Vector{6, 6, 4}, []api.Op{l[4]}},
		{api.Vector{0, 0, 0, 9, 9, 9, 9, 9}, l},
		{api.Vector{-1, math.MinInt, -5}, l},
		{api.Vector{math.MaxInt, math.MaxInt, math.MaxInt, -1}, nil},
		{api.Vector{1 << 20, 0, 1 << 20}, []api.Op{l[2], l[3], six}},
	} {
		for _, most := range []int{math.MinInt, -7, -1, 0, 1, 2, len(c.want) - 1, len(c.want), len(c.want) + 1, 4000, 4001, math.MaxInt} {
			want := c.want[:min(len(c.want), max(0, most))]
			if got := s.Missing(c.v, most); !slices.Equal(got, want) {
				t.Errorf("Missing(%v, %d): %v, not %v", c.v, most, ids(got), ids(want))
			}
		}
	}
}

// K2: Missing goes by the order in which they were delivered, and by these alone.
func TestMissingInOrder(t *testing.T) {
	a, b, c := typed(at(7, 0)), typed(at(1, 1)), typed(at(3, 2))
	waits := typed(at(9, 3), at(8, 4))
	s := given(a, waits, b, c)
	for most, want := range [][]api.Op{nil, {a}, {a, b}, {a, b, c}, {a, b, c}} {
		if got := s.Missing(api.Vector{}, most); !slices.Equal(got, want) {
			t.Errorf("Missing, %d at most: %v, not %v", most, ids(got), ids(want))
		}
	}
	for most, want := range [][]api.Op{nil, {b}, {b, c}, {b, c}} {
		if got := s.Missing(api.Vector{7}, most); !slices.Equal(got, want) {
			t.Errorf("Missing, %d at most: %v, not %v", most, ids(got), ids(want))
		}
	}
}

// K2: All is by the order of delivery, Pending by rising stamps, Known of what was delivered alone.
func TestTold(t *testing.T) {
	l := []api.Op{typed(at(9, 1)), typed(at(2, 0)), typed(at(2, 7)), typed(at(12, 1), at(9, 1))}
	p := []api.Op{typed(at(3, 0), at(2, 0), at(1, 4)), typed(at(3, 5), at(1, 4)), typed(at(6, 2), at(1, 4)), typed(at(1<<20, 3), at(1, 4))}
	s := given(p[2], l[0], p[3], l[1], p[1], l[2], p[0], l[3])
	check(t, s, l, p)
	if got := s.Known(); got != (api.Vector{2, 12, 0, 0, 0, 0, 0, 2}) {
		t.Errorf("Known: %v", got)
	}
}

// The greatest counter is one as the others.
func TestGreatestCounter(t *testing.T) {
	l := []api.Op{typed(at(1<<20-1, 7)), typed(at(1<<20, 7), at(1<<20-1, 7))}
	s := given(l[1])
	adds(t, s, l[0], l...)
	refuses(t, s, typed(at(1<<20, 6), at(1<<20-2, 7)), api.ErrFork)
	check(t, s, l, nil)
}
