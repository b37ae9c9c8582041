package rope_test

import (
	"math"
	"math/rand/v2"
	"slices"
	"testing"

	"stemma/api"
	"stemma/rope"
)

// Rule 8, P1: a nil rope.
func TestNil(t *testing.T) {
	nilRope(t, "", "a")
	nilRope(t, 0, 7)
	nilRope(t, api.Stamp{}, api.Stamp{N: 1, R: 2})
	nilRope[any](t, nil, []int{1})
}

func nilRope[K comparable](t *testing.T, items ...K) {
	t.Helper()
	var r *rope.Rope[K]
	var none K
	for range 2 {
		for _, i := range []int{math.MinInt, -1, 0, 1, math.MaxInt} {
			for _, k := range items {
				if e := r.Insert(i, k, i > 0); e != api.ErrArg {
					t.Errorf("Insert: %v", e)
				}
				if e := r.Show(k, i > 0); e != api.ErrArg {
					t.Errorf("Show: %v", e)
				}
				if place, e := r.Place(k); place != 0 || e != api.ErrArg {
					t.Errorf("Place: %d, %v", place, e)
				}
				if rank, e := r.Rank(k); rank != 0 || e != api.ErrArg {
					t.Errorf("Rank: %d, %v", rank, e)
				}
			}
			if k, e := r.At(i); k != none || e != api.ErrArg {
				t.Errorf("At: %v, %v", k, e)
			}
			if k, e := r.Nth(i); k != none || e != api.ErrArg {
				t.Errorf("Nth: %v, %v", k, e)
			}
		}
		if r.Len() != 0 || r.Count() != 0 || len(r.All()) != 0 {
			t.Errorf("%d, %d, %v", r.Len(), r.Count(), r.All())
		}
	}
}

// A rope that no call gave is as New's.
func TestZeroRope(t *testing.T) {
	r := new(rope.Rope[string])
	check(t, r, nil, "", "a")
	refuses(t, r, 1, "a", true, api.ErrRopePlace)
	check(t, r, nil, "", "a")
	inserts(t, r, 0, "a", true)
	inserts(t, r, 1, "b", false)
	check(t, r, row("Ab"), "", "c")
}

// Rule 3: what is refused changes nothing, be it at a rope of one run or of many.
func TestRefused(t *testing.T) {
	for _, n := range []int{0, 1, 5, 300} {
		for _, rule := range rules(n)[:6] {
			l := sized(n, rule)
			r := of(t, l)
			for _, at := range beyond(n) {
				for i := range n {
					refuses(t, r, at, i, !rule(i), api.ErrRopeItem)
				}
				if at != n {
					refuses(t, r, at, n, true, api.ErrRopePlace)
				}
				check(t, r, l, n, -1)
			}
			inserts(t, r, n/2, n, true)
			check(t, r, slices.Insert(l, n/2, thing[int]{n, true}), -1)
		}
	}
}

// Rule 4: what is answered shares no memory with what the rope keeps, nor with another answer.
func TestMemory(t *testing.T) {
	for _, n := range []int{1, 2, 31, 33, 100, 1000} {
		l := sized(n, func(i int) bool { return i%4 > 1 })
		r := of(t, l)
		first, second := r.All(), r.All()
		wipe(first)
		check(t, r, l, -5)
		for i, k := range second {
			if k != l[i].k {
				t.Fatalf("an answer is another one, once another one is written into: %v", second)
			}
		}
		inserts(t, r, 0, n, true)
		wipe(second)
		wipe(r.All())
		check(t, r, slices.Insert(l, 0, thing[int]{n, true}), -5)
	}
}

// wipe writes into all that an answer's memory may hold.
func wipe(l []int) {
	l = l[:cap(l)]
	for i := range l {
		l[i] = -5
	}
}

// Rule 4: what was answered stays, whatever is done with the rope later on.
func TestAnswersStay(t *testing.T) {
	r := rope.New[int]()
	var answers, copies [][]int
	for i := range 600 {
		inserts(t, r, i*7919%(i+1), i, i%2 > 0)
		shows(t, r, i/2, i%3 > 0)
		l := r.All()
		answers, copies = append(answers, l), append(copies, slices.Clone(l))
	}
	for i := range answers {
		if !slices.Equal(answers[i], copies[i]) {
			t.Fatalf("the %d. answer is another one now", i)
		}
	}
}

// told is all that a rope tells.
func told(r *rope.Rope[int], keys int) []int {
	l := append(r.All(), r.Len(), r.Count())
	for i := -1; i <= keys; i++ {
		at, eAt := r.At(i)
		nth, eNth := r.Nth(i)
		place, ePlace := r.Place(i)
		rank, eRank := r.Rank(i)
		l = append(l, at, int(eAt), nth, int(eNth), place, int(ePlace), rank, int(eRank))
	}
	return l
}

// P2: the same calls on another rope answer the same, whatever was asked between, and whatever other ropes are given.
func TestSameAgain(t *testing.T) {
	r := rand.New(rand.NewPCG(11, 4))
	for range 20 {
		script := whatever(r, 300, 150)
		var n tally
		quiet := play(t, script, number, 150, 0, &n)
		play(t, whatever(r, 300, 150), number, 150, 0, &n)
		asked := play(t, script, number, 150, 1, &n)
		first := told(asked, 150)
		if !slices.Equal(first, told(quiet, 150)) || !slices.Equal(first, told(asked, 150)) {
			t.Fatalf("%v behind %v", first, script)
		}
	}
}

// W1 at its word: an item that is not even itself is never there; so it may stand in the row more than once.
func TestNotItself(t *testing.T) {
	r := rope.New[float64]()
	nan := math.NaN()
	for i := range 200 {
		inserts(t, r, i/2, float64(i), i%2 > 0)
		inserts(t, r, i, nan, true)
		notThere(t, r, nan)
	}
	if r.Len() != 400 || r.Count() != 300 {
		t.Fatalf("%d, %d", r.Len(), r.Count())
	}
	for i, k := range r.All() {
		at, e := r.At(i)
		if e != api.OK || at != k && (at == at || k == k) {
			t.Fatalf("At(%d): %v, %v, not %v", i, at, e, k)
		}
		if place, e := r.Place(k); k == k && (place != i || e != api.OK) {
			t.Fatalf("Place(%v): %d, %v, not %d", k, place, e, i)
		}
	}
	refuses(t, r, 401, nan, true, api.ErrRopePlace)
	refuses(t, r, 0, math.Copysign(0, -1), true, api.ErrRopeItem) // there is a 0, and that is 0, too
}

// holds is an item in which there may be what can't be compared.
type holds struct{ v any }

// P1, rule 3: what can't be compared is no item: it is refused, and nothing panics.
func TestNotComparable(t *testing.T) {
	wrongs := []any{[]int{1}, []int(nil), map[int]int{}, func() {}, [1]any{[]int{}}, holds{holds{[]string{"a"}}}, struct{ f func() }{}}
	for _, n := range []int{0, 1, 100} {
		r, h := rope.New[any](), rope.New[holds]()
		var l []thing[any]
		var lh []thing[holds]
		for i := range n {
			inserts[any](t, r, i, i, true)
			inserts(t, h, i, holds{i}, false)
			l, lh = append(l, thing[any]{i, true}), append(lh, thing[holds]{holds{i}, false})
		}
		for _, wrong := range wrongs {
			for _, at := range append(beyond(n), 0) {
				refuses(t, r, at, wrong, true, api.ErrArg)
				refuses(t, h, at, holds{wrong}, true, api.ErrArg)
			}
			check[any](t, r, l, wrong, nil, "x", [1]any{1})
			check(t, h, lh, holds{wrong}, holds{nil}, holds{holds{1}})
		}
	}
}

// P1: at whatever arguments no call panics.
func TestNoPanic(t *testing.T) {
	r := rand.New(rand.NewPCG(11, 5))
	numbers := []int{math.MinInt, math.MinInt + 1, -1, 0, 1, 2, 31, 32, 33, 64, 1 << 31, math.MaxInt - 1, math.MaxInt}
	any1 := func() int { return numbers[r.IntN(len(numbers))] + r.IntN(3) }
	x := rope.New[int]()
	for range 20000 {
		x.Insert(any1(), any1(), r.IntN(2) > 0)
		x.Show(any1(), r.IntN(2) > 0)
		x.Place(any1())
		x.Rank(any1())
		x.At(any1())
		x.Nth(any1())
	}
	if l := x.All(); len(l) != x.Len() || x.Count() > x.Len() || len(l) < 20 {
		t.Errorf("%v, %d, %d", l, x.Len(), x.Count())
	}
}
