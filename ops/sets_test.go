package ops_test

import (
	"fmt"
	"math"
	"math/rand/v2"
	"slices"
	"testing"

	"stemma/api"
	"stemma/ops"
)

// typed is an Insert at the text's beginning that leans on some stamps.
func typed(id api.Stamp, on ...api.Stamp) api.Op {
	o := api.Op{ID: id, Kind: api.Insert, Side: api.Right, Ch: 'a'}
	for _, s := range on {
		o.Deps[s.R] = s.N
	}
	return o
}

// anyOp is an operation of any kind by somebody who knows l, and names stamps of it.
func anyOp(r *rand.Rand, id api.Stamp, l []api.Op) api.Op {
	o := api.Op{ID: id, Deps: ops.Most(l), Kind: api.Insert, Side: api.Right, Ch: 32 + r.IntN(95)}
	if len(l) == 0 || r.IntN(8) == 0 {
		return o
	}
	one, other := l[r.IntN(len(l))].ID, l[r.IntN(len(l))].ID
	switch o.Kind = api.Kind(1 + r.IntN(5)); o.Kind {
	case api.Insert:
		o.Ref, o.Side = one, api.Side(1+r.IntN(2))
	case api.Mark:
		o = api.Op{ID: id, Deps: o.Deps, Kind: o.Kind, Name: "bold", From: api.Anchor{ID: one}, To: api.Anchor{ID: other, After: true}}
	case api.Delete:
		o = api.Op{ID: id, Deps: o.Deps, Kind: o.Kind, Ref: one}
	case api.Set:
		o = api.Op{ID: id, Deps: o.Deps, Kind: o.Kind, Ref: one, Name: "kind", Value: "para"}
	case api.Move:
		o = api.Op{ID: id, Deps: o.Deps, Kind: o.Kind, Ref: one, Under: other, Key: "m"}
		if one == other {
			o.Under = api.Stamp{}
		}
	}
	return o
}

// grown is a set that some replicas made, each knowing what it made itself and what it took from others at times.
func grown(r *rand.Rand, size int) []api.Op {
	var all []api.Op
	var knows [api.MaxReplicas][]api.Op
	for len(all) < size {
		by := r.IntN(api.MaxReplicas)
		if from := r.IntN(3 * api.MaxReplicas); from < api.MaxReplicas {
			for _, o := range knows[from] {
				if !slices.Contains(knows[by], o) {
					knows[by] = append(knows[by], o)
				}
			}
			continue
		}
		seen := 0
		for _, o := range knows[by] {
			seen = max(seen, o.ID.N)
		}
		o := anyOp(r, at(seen+1, by), knows[by])
		knows[by], all = append(knows[by], o), append(all, o)
	}
	return all
}

// shuffled is a list in another order.
func shuffled(r *rand.Rand, l []api.Op) []api.Op {
	l = slices.Clone(l)
	r.Shuffle(len(l), func(i, j int) { l[i], l[j] = l[j], l[i] })
	return l
}

// named are the stamps that an operation names, and that are not none.
func named(o api.Op) []api.Stamp {
	l := []api.Stamp{o.Ref, o.Under, o.From.ID, o.To.ID}
	return slices.DeleteFunc(l, func(s api.Stamp) bool { return s == api.Stamp{} })
}

// leansOn are the stamps of an operation's Deps.
func leansOn(o api.Op) []api.Stamp {
	var l []api.Stamp
	for r, n := range o.Deps {
		if n != 0 {
			l = append(l, at(n, r))
		}
	}
	return l
}

// brief is what a failure tells of a set: its beginning.
func brief(l []api.Op) string {
	return fmt.Sprintf("%d: %.600s", len(l), fmt.Sprintf("%+v", l))
}

func checkClosed(t *testing.T, l []api.Op, want bool) {
	t.Helper()
	if got := ops.Closed(l); got != want {
		t.Errorf("Closed(%s): %v", brief(l), got)
	}
}

// checkEach holds Closed of a set in each order of at most four operations.
func checkEach(t *testing.T, l []api.Op, want bool) {
	t.Helper()
	if len(l) > 4 {
		t.Fatal("too many orders")
	}
	var order func(ahead, rest []api.Op)
	order = func(ahead, rest []api.Op) {
		if len(rest) == 0 {
			checkClosed(t, ahead, want)
		}
		for i := range rest {
			others := slices.Delete(slices.Clone(rest), i, i+1)
			order(append(slices.Clone(ahead), rest[i]), others)
		}
	}
	order(nil, l)
}

// O1: Closed, of few operations in each order.
func TestClosed(t *testing.T) {
	a, b := typed(at(1, 0)), typed(at(1, 1))
	c := typed(at(2, 1), a.ID, b.ID)
	d := typed(at(7, 7), c.ID)
	checkEach(t, nil, true)
	checkEach(t, []api.Op{}, true)
	checkEach(t, []api.Op{a}, true)
	checkEach(t, []api.Op{a, b}, true)
	checkEach(t, []api.Op{a, b, c}, true)
	checkEach(t, []api.Op{a, b, c, d}, true)
	// one is lacking that Deps tell of
	checkEach(t, []api.Op{c}, false)
	checkEach(t, []api.Op{a, c}, false)
	checkEach(t, []api.Op{b, c}, false)
	checkEach(t, []api.Op{a, b, d}, false)
	checkEach(t, []api.Op{a, c, d}, false)
	// a greater or a lesser one of that replica is not just that one, nor is that number of another replica
	e := typed(at(9, 2), at(5, 3))
	checkEach(t, []api.Op{e, typed(at(5, 3))}, true)
	checkEach(t, []api.Op{e, typed(at(4, 3)), typed(at(6, 3))}, false)
	checkEach(t, []api.Op{e, typed(at(5, 4)), typed(at(5, 2))}, false)
	// two with one ID, alike or not
	checkEach(t, []api.Op{a, a}, false)
	checkEach(t, []api.Op{a, typed(at(2, 0)), a}, false)
	checkEach(t, []api.Op{a, with(a, func(o *api.Op) { o.Ch = 'b' })}, false)
	checkEach(t, []api.Op{a, b, c, typed(c.ID, a.ID)}, false)
	// each of Deps counts
	for r := range api.MaxReplicas {
		o := typed(at(3, (r+1)%8), at(2, r))
		checkEach(t, []api.Op{o}, false)
		checkEach(t, []api.Op{o, typed(at(2, r))}, true)
	}
}

// O1: Closed, where one that is not right is among them; itself it lacks nothing.
func TestClosedOfNotRight(t *testing.T) {
	a := typed(at(2, 0))
	for _, o := range []api.Op{
		{},
		typed(at(0, 1)), typed(at(-1, 1)), typed(at(1<<20+1, 1)), typed(at(3, 8)), typed(at(3, -1)),
		typed(at(math.MaxInt, 1)), typed(at(math.MinInt, 1)), typed(at(3, math.MaxInt)), typed(at(3, math.MinInt)),
		typed(at(2, 1), a.ID), typed(at(1, 1), a.ID), // made no later than what it leans on
		with(typed(at(3, 1)), func(o *api.Op) { o.Kind = 6 }),
		with(typed(at(3, 1)), func(o *api.Op) { o.Kind = 0 }),
		with(typed(at(3, 1)), func(o *api.Op) { o.Ch = 127 }),
		with(typed(at(3, 1)), func(o *api.Op) { o.Name = "a" }),
		with(typed(at(3, 1)), func(o *api.Op) { o.Ref = a.ID }), // names what it does not lean on
		with(typed(at(3, 1)), func(o *api.Op) { o.Deps[1] = -1 }),
		with(typed(at(3, 1)), func(o *api.Op) { o.Deps[7] = math.MaxInt }),
		with(typed(at(3, 1)), func(o *api.Op) { o.Deps[7] = math.MinInt }),
	} {
		checkEach(t, []api.Op{o}, false)
		checkEach(t, []api.Op{a, o}, false)
		checkEach(t, []api.Op{a, o, typed(at(1, 1)), typed(at(4, 5))}, false)
	}
	itself := typed(at(3, 1), at(3, 1))
	checkEach(t, []api.Op{itself}, false)
	ring := []api.Op{typed(at(3, 1), at(3, 2)), typed(at(3, 2), at(3, 1))}
	checkEach(t, ring, false)
}

// O1: Closed goes by the numbers of Deps: that a stamp that is named is one of these (2) does not ask for its operation.
func TestClosedGoesByDeps(t *testing.T) {
	a := typed(at(5, 0))
	checkEach(t, []api.Op{a, with(typed(at(6, 1), a.ID), func(o *api.Op) { o.Ref = at(3, 0) })}, true)
}

// O1 (P7.1): sets that replicas made, in many orders, with one operation taken out, put in twice, or made wrong.
func TestGrown(t *testing.T) {
	r := rand.New(rand.NewPCG(7, 1))
	for size := range 40 {
		l := shuffled(r, grown(r, size))
		checkClosed(t, l, true)
		checkSet(t, l)
		for i := range l {
			less := slices.Delete(slices.Clone(l), i, i+1)
			leans := slices.ContainsFunc(less, func(o api.Op) bool { return slices.Contains(leansOn(o), l[i].ID) })
			checkClosed(t, less, !leans)
			checkSet(t, less)
			checkClosed(t, append(slices.Clone(l), l[i]), false)
			wrong := slices.Clone(l)
			wrong[i].Value += "\n"
			checkClosed(t, wrong, false)
		}
	}
}

// checkSet holds each call against the chapter read another way.
func checkSet(t *testing.T, l []api.Op) {
	t.Helper()
	if got := ops.Closed(l); got != isClosed(l) {
		t.Fatalf("Closed(%s): %v", brief(l), got)
	}
	if got := ops.Sort(l); !isSorted(got, l) {
		t.Fatalf("Sort(%s): %s", brief(l), brief(got))
	}
	if got := ops.Most(l); got != mostOf(l) {
		t.Fatalf("Most(%s): %v", brief(l), got)
	}
}

// O1 (P7.1): sets of few stamps, so that many lack one, or have one twice.
func TestFewStamps(t *testing.T) {
	r := rand.New(rand.NewPCG(7, 2))
	closed := 0
	for range 20000 {
		var l []api.Op
		for range r.IntN(5) {
			o := typed(at(r.IntN(4), r.IntN(3)))
			o.Deps[r.IntN(3)] = r.IntN(o.ID.N + 1)
			o.Deps[r.IntN(3)] = max(0, r.IntN(o.ID.N+2)-2)
			l = append(l, o)
		}
		checkSet(t, l)
		if len(l) > 1 && ops.Closed(l) {
			closed++
		}
	}
	if closed < 500 {
		t.Errorf("only %d of them are closed", closed)
	}
}

// P7.2: what an operation names or leans on is earlier.
func TestEarlier(t *testing.T) {
	r := rand.New(rand.NewPCG(7, 3))
	for size := range 60 {
		l := shuffled(r, grown(r, 2*size))
		if !ops.Closed(l) {
			t.Fatalf("%s is not closed", brief(l))
		}
		var ahead []api.Stamp
		for _, o := range ops.Sort(l) {
			for _, s := range append(named(o), leansOn(o)...) {
				if !slices.Contains(ahead, s) {
					t.Fatalf("%v does not stand ahead of %+v", s, o)
				}
			}
			ahead = append(ahead, o.ID)
		}
	}
}

// A set of as many as a replica takes.
func TestManyClosed(t *testing.T) {
	var l []api.Op
	for i := range api.MaxOps {
		o := typed(at(i+1, i%8))
		for r := range min(i, 8) {
			o.Deps[(i-1-r)%8] = i - r
		}
		l = append(l, o)
	}
	slices.Reverse(l)
	checkClosed(t, l, true)
	if got := ops.Most(l); got != (api.Vector{3993, 3994, 3995, 3996, 3997, 3998, 3999, 4000}) {
		t.Errorf("Most: %v", got)
	}
	if s := ops.Sort(l); !slices.IsSortedFunc(s, func(a, b api.Op) int { return a.ID.N - b.ID.N }) || len(s) != len(l) {
		t.Error("Sort: not by rising stamps")
	}
	l = slices.Delete(l, 2000, 2001)
	if ops.Closed(l) {
		t.Error("Closed, without one in the middle")
	}
}

// Rule 4: what is handed in stays, and what lies behind it; what is answered is new memory.
func TestMemory(t *testing.T) {
	whole := append([]api.Op{typed(at(3, 0), at(1, 1)), typed(at(1, 1)), typed(at(2, 2))}, some()...)
	stood := slices.Clone(whole)
	for n := range len(whole) + 1 {
		l := whole[:n]
		sorted, again := ops.Sort(l), ops.Sort(l)
		closed, most := ops.Closed(l), ops.Most(l)
		if !slices.Equal(whole, stood) {
			t.Fatalf("a list that was handed in is another one now: %s", brief(whole))
		}
		if !isSorted(sorted, l) || closed != isClosed(l) || most != mostOf(l) {
			t.Errorf("of the first %d: %s, %v, %v", n, brief(sorted), closed, most)
		}
		clear(sorted[:cap(sorted)])
		if !slices.Equal(whole, stood) || !isSorted(again, l) {
			t.Error("an answer shares memory with the list, or with another answer")
		}
	}
	s := ops.Sort(whole)
	kept := slices.Clone(s)
	clear(whole)
	if !slices.Equal(s, kept) {
		t.Error("an answer shares memory with the list")
	}
}

// P1, P2: at all arguments each call ends, none panics, and asked again it answers the same.
func TestSameAgain(t *testing.T) {
	var l []api.Op
	for _, o := range some() {
		for _, c := range changes() {
			l = append(l, with(o, c))
		}
	}
	again := func() (out []bool) {
		for i, o := range l {
			out = append(out, ops.Right(o), ops.Closed(l[i:min(i+3, len(l))]))
		}
		return append(out, ops.Closed(l), ops.Closed(nil))
	}
	if !slices.Equal(again(), again()) || !slices.Equal(ops.Sort(l), ops.Sort(l)) || ops.Most(l) != ops.Most(l) {
		t.Error("the answers differ")
	}
	checkSet(t, l)
}
