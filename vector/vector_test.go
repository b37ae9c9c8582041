package vector_test

import (
	"math"
	"slices"
	"testing"

	"stemma/api"
	"stemma/vector"
)

// edges are numbers at which something changes, and some far beyond.
var edges = []int{math.MinInt, -1, 0, 1, 7, 8, api.MaxCounter, api.MaxCounter + 1, math.MaxInt}

// noReplicas are numbers of which a vector has none.
var noReplicas = []int{math.MinInt, -8, -1, 8, 9, 1 << 8, 1 << 32, math.MaxInt}

// some are vectors of which many cover one another and many do not: of three replicas each choice
// of a low, a middle and a high number, and of every replica alone each edge.
func some() []api.Vector {
	var l []api.Vector
	few := []int{math.MinInt, 5, math.MaxInt}
	for _, a := range few {
		for _, b := range few {
			for _, c := range few {
				l = append(l, api.Vector{0: a, 4: b, 7: c})
			}
		}
	}
	for r := range api.MaxReplicas {
		for _, n := range edges {
			var v api.Vector
			v[r] = n
			l = append(l, v)
		}
	}
	return append(l, api.Vector{3, 0, 5}, api.Vector{1, 2, 5}, api.Vector{1, 2, 3, 4, 5, 6, 7, 8}, api.Vector{8, 7, 6, 5, 4, 3, 2, 1})
}

// above tells of each replica alone whether a's number is at least b's.
func above(a, b api.Vector) bool {
	for r := range api.MaxReplicas {
		if a[r] < b[r] {
			return false
		}
	}
	return true
}

// V1: Has.

func TestHas(t *testing.T) {
	v := api.Vector{3, 0, 5, 0, 0, 0, 0, 9}
	for _, c := range []struct {
		v    api.Vector
		s    api.Stamp
		want bool
	}{
		{v, api.Stamp{N: 5, R: 2}, true},
		{v, api.Stamp{N: 4, R: 2}, true},
		{v, api.Stamp{N: 6, R: 2}, false},
		{v, api.Stamp{N: 3, R: 0}, true},
		{v, api.Stamp{N: 4, R: 0}, false},
		{v, api.Stamp{N: 9, R: 7}, true},
		{v, api.Stamp{N: 10, R: 7}, false},
		{v, api.Stamp{N: 1, R: 1}, false},
		{v, api.Stamp{}, true}, // none: 3 is at least 0
		{api.Vector{}, api.Stamp{}, true},
		{api.Vector{}, api.Stamp{N: 1, R: 0}, false},
		{v, api.Stamp{N: 0, R: 1}, true},
		{v, api.Stamp{N: -1, R: 1}, true},
		{v, api.Stamp{N: math.MinInt, R: 1}, true},
		{v, api.Stamp{N: math.MaxInt, R: 2}, false},
		{api.Vector{-1}, api.Stamp{}, false},
		{api.Vector{-1}, api.Stamp{N: -1}, true},
		{api.Vector{math.MaxInt}, api.Stamp{N: math.MaxInt}, true},
		{api.Vector{math.MinInt}, api.Stamp{N: math.MaxInt}, false}, // a difference would wrap round
		{api.Vector{math.MaxInt}, api.Stamp{N: math.MinInt}, true},
	} {
		if got := vector.Has(c.v, c.s); got != c.want {
			t.Errorf("Has(%v, %v): %v", c.v, c.s, got)
		}
	}
}

func TestHasOfEachReplica(t *testing.T) {
	v := api.Vector{10, 20, 30, 40, 50, 60, 70, 80}
	for r := range api.MaxReplicas {
		most := 10 * (r + 1)
		if !vector.Has(v, api.Stamp{N: most, R: r}) || vector.Has(v, api.Stamp{N: most + 1, R: r}) {
			t.Errorf("Has(%v) of replica %d at %d", v, r, most)
		}
	}
}

func TestHasOfNoReplica(t *testing.T) {
	var full api.Vector
	for r := range full {
		full[r] = math.MaxInt
	}
	for _, r := range noReplicas {
		for _, n := range edges {
			if s := (api.Stamp{N: n, R: r}); vector.Has(full, s) || vector.Has(api.Vector{}, s) {
				t.Errorf("Has of %v, whose replica is none", s)
			}
		}
	}
}

// V1: With.

func TestWith(t *testing.T) {
	v := api.Vector{3, 0, 5, 0, 0, 0, 0, 9}
	for _, c := range []struct {
		v    api.Vector
		s    api.Stamp
		want api.Vector
	}{
		{v, api.Stamp{N: 4, R: 1}, api.Vector{3, 4, 5, 0, 0, 0, 0, 9}},
		{v, api.Stamp{N: 4, R: 0}, api.Vector{4, 0, 5, 0, 0, 0, 0, 9}},
		{v, api.Stamp{N: 12, R: 7}, api.Vector{3, 0, 5, 0, 0, 0, 0, 12}},
		{v, api.Stamp{N: api.MaxCounter, R: 6}, api.Vector{3, 0, 5, 0, 0, 0, api.MaxCounter, 9}},
		{v, api.Stamp{N: 5, R: 2}, v}, // as great
		{v, api.Stamp{N: 4, R: 2}, v}, // less: a vector never loses any
		{v, api.Stamp{N: 0, R: 2}, v},
		{v, api.Stamp{N: -1, R: 1}, v},
		{v, api.Stamp{N: math.MinInt, R: 7}, v},
		{v, api.Stamp{}, v},
		{api.Vector{}, api.Stamp{N: 1, R: 3}, api.Vector{3: 1}},
		{api.Vector{-5}, api.Stamp{}, api.Vector{}},
		{api.Vector{math.MinInt}, api.Stamp{N: math.MaxInt}, api.Vector{math.MaxInt}},
		{api.Vector{math.MaxInt}, api.Stamp{N: math.MinInt}, api.Vector{math.MaxInt}},
	} {
		if got := vector.With(c.v, c.s); got != c.want {
			t.Errorf("With(%v, %v): %v, not %v", c.v, c.s, got, c.want)
		}
	}
}

func TestWithOfNoReplica(t *testing.T) {
	for _, v := range some() {
		for _, r := range noReplicas {
			for _, n := range edges {
				if got := vector.With(v, api.Stamp{N: n, R: r}); got != v {
					t.Fatalf("With(%v, {%d %d}): %v", v, n, r, got)
				}
			}
		}
	}
}

// V1: With has the stamp, all that was had, and of the other replicas no more.
func TestWithIsTheLeast(t *testing.T) {
	for _, v := range some() {
		for r := range api.MaxReplicas {
			for _, n := range edges {
				want := v
				if n > v[r] {
					want[r] = n
				}
				s := api.Stamp{N: n, R: r}
				got := vector.With(v, s)
				if got != want || !vector.Has(got, s) || !vector.Covers(got, v) {
					t.Fatalf("With(%v, %v): %v", v, s, got)
				}
				if vector.Has(v, s) != (got == v) {
					t.Fatalf("Has(%v, %v): %v, but With: %v", v, s, vector.Has(v, s), got)
				}
			}
		}
	}
}

// V1: Join.

func TestJoin(t *testing.T) {
	for _, c := range []struct{ a, b, want api.Vector }{
		{api.Vector{3, 0, 5}, api.Vector{1, 2, 5}, api.Vector{3, 2, 5}},
		{api.Vector{1, 2, 3, 4, 5, 6, 7, 8}, api.Vector{8, 7, 6, 5, 4, 3, 2, 1}, api.Vector{8, 7, 6, 5, 5, 6, 7, 8}},
		{api.Vector{}, api.Vector{7: 1}, api.Vector{7: 1}},
		{api.Vector{}, api.Vector{}, api.Vector{}},
		{api.Vector{-2, -3}, api.Vector{-3, -2}, api.Vector{-2, -2}},
		{api.Vector{math.MinInt, math.MaxInt}, api.Vector{math.MaxInt, math.MinInt}, api.Vector{math.MaxInt, math.MaxInt}},
	} {
		if got := vector.Join(c.a, c.b); got != c.want {
			t.Errorf("Join(%v, %v): %v, not %v", c.a, c.b, got, c.want)
		}
		if got := vector.Join(c.b, c.a); got != c.want {
			t.Errorf("Join(%v, %v): %v, not %v", c.b, c.a, got, c.want)
		}
	}
}

// P2.2.
func TestJoinIsTheLeastAboveBoth(t *testing.T) {
	l := some()
	for _, a := range l {
		for _, b := range l {
			j := vector.Join(a, b)
			if !vector.Covers(j, a) || !vector.Covers(j, b) {
				t.Fatalf("Join(%v, %v): %v does not cover both", a, b, j)
			}
			for _, c := range l {
				if vector.Covers(c, a) && vector.Covers(c, b) && !vector.Covers(c, j) {
					t.Fatalf("%v covers %v and %v, but not their Join %v", c, a, b, j)
				}
			}
		}
	}
}

// V1: Covers.

func TestCovers(t *testing.T) {
	for _, c := range []struct {
		a, b api.Vector
		want bool
	}{
		{api.Vector{3, 0, 5}, api.Vector{1, 2, 5}, false},
		{api.Vector{1, 2, 5}, api.Vector{3, 0, 5}, false}, // neither one
		{api.Vector{3, 0, 5}, api.Vector{3, 0, 4}, true},
		{api.Vector{3, 0, 4}, api.Vector{3, 0, 5}, false},
		{api.Vector{3, 0, 5}, api.Vector{3, 0, 5}, true},
		{api.Vector{}, api.Vector{}, true},
		{api.Vector{}, api.Vector{7: 1}, false},
		{api.Vector{7: 1}, api.Vector{}, true},
		{api.Vector{0: -1}, api.Vector{}, false},
		{api.Vector{}, api.Vector{0: -1}, true},
		{api.Vector{9, 9, 9, 9, 9, 9, 9, 0}, api.Vector{0, 0, 0, 0, 0, 0, 0, 1}, false},
		{api.Vector{math.MaxInt}, api.Vector{math.MinInt}, true},
		{api.Vector{math.MinInt}, api.Vector{math.MaxInt}, false},
	} {
		if got := vector.Covers(c.a, c.b); got != c.want {
			t.Errorf("Covers(%v, %v): %v", c.a, c.b, got)
		}
	}
}

func TestCoversReplicaByReplica(t *testing.T) {
	l := some()
	for _, a := range l {
		for _, b := range l {
			if got := vector.Covers(a, b); got != above(a, b) {
				t.Fatalf("Covers(%v, %v): %v", a, b, got)
			}
		}
	}
}

// P2.3.
func TestCoversIsAnOrder(t *testing.T) {
	l := some()
	for _, a := range l {
		if !vector.Covers(a, a) {
			t.Fatalf("%v does not cover itself", a)
		}
		for _, b := range l {
			if !vector.Covers(a, b) {
				continue
			}
			if vector.Covers(b, a) && a != b {
				t.Fatalf("%v and %v cover each other", a, b)
			}
			for _, c := range l {
				if vector.Covers(b, c) && !vector.Covers(a, c) {
					t.Fatalf("%v covers %v, which covers %v", a, b, c)
				}
			}
		}
	}
}

// V1: Most.

func TestMost(t *testing.T) {
	for _, c := range []struct {
		v    api.Vector
		want int
	}{
		{api.Vector{3, 0, 5}, 5},
		{api.Vector{}, 0},
		{api.Vector{api.MaxCounter}, api.MaxCounter},
		{api.Vector{7: 1}, 1},
		{api.Vector{-1}, 0},
		{api.Vector{-8, -7, -6, -5, -4, -3, -2, -3}, -2}, // all below 0
		{api.Vector{math.MinInt, math.MinInt, math.MinInt, math.MinInt, math.MinInt, math.MinInt, math.MinInt, math.MinInt}, math.MinInt},
		{api.Vector{4: math.MaxInt, 5: math.MinInt}, math.MaxInt},
	} {
		if got := vector.Most(c.v); got != c.want {
			t.Errorf("Most(%v): %d, not %d", c.v, got, c.want)
		}
	}
	for r := range api.MaxReplicas {
		v := api.Vector{1, 1, 1, 1, 1, 1, 1, 1}
		v[r] = 2
		if got := vector.Most(v); got != 2 {
			t.Errorf("Most(%v): %d", v, got)
		}
	}
}

// P1, P2, and rule 4: at all arguments each call ends and none panics; asked again it answers the same, and what was handed in stands as it was.
func TestSameAgain(t *testing.T) {
	l := some()
	stood := slices.Clone(l)
	again := func() (out []any) {
		for i, v := range l {
			w := l[len(l)-1-i]
			for _, r := range slices.Concat(noReplicas, []int{0, 7}) {
				for _, n := range edges {
					s := api.Stamp{N: n, R: r}
					out = append(out, vector.Has(v, s), vector.With(v, s))
				}
			}
			out = append(out, vector.Join(v, w), vector.Covers(v, w), vector.Most(v))
		}
		return out
	}
	if !slices.Equal(again(), again()) {
		t.Error("the answers differ")
	}
	if !slices.Equal(l, stood) {
		t.Error("a vector that was handed in is another one now")
	}
}
