package rope_test

import (
	"math"
	"slices"
	"testing"

	"stemma/api"
	"stemma/rope"
)

// thing is an item, as it stands in a row.
type thing[K comparable] struct {
	k     K
	shown bool
}

// row is a rope's items by hand: a capital letter is one that is shown, a small one is not.
func row(letters string) (l []thing[string]) {
	for _, c := range letters {
		l = append(l, thing[string]{string(c | 32), c < 'a'})
	}
	return l
}

// of is a rope of just these items, put in from the first to the last.
func of[K comparable](t *testing.T, l []thing[K]) *rope.Rope[K] {
	t.Helper()
	r := rope.New[K]()
	for i, x := range l {
		if e := r.Insert(i, x.k, x.shown); e != api.OK {
			t.Fatalf("Insert(%d, %v, %v): %v", i, x.k, x.shown, e)
		}
	}
	return r
}

// beyond are places at which a row of so many has nothing.
func beyond(n int) []int {
	return []int{math.MinInt, math.MinInt + 1, -n - 1, -2, -1, n, n + 1, n + 2, math.MaxInt - 1, math.MaxInt}
}

// check holds all that a rope tells of a row (W1), there and back (P11.2), and of what is not there.
func check[K comparable](t *testing.T, r *rope.Rope[K], l []thing[K], absent ...K) {
	t.Helper()
	count := 0
	var all []K
	for i, x := range l {
		all = append(all, x.k)
		if place, e := r.Place(x.k); place != i || e != api.OK {
			t.Fatalf("Place(%v): %d, %v, not %d", x.k, place, e, i)
		}
		if rank, e := r.Rank(x.k); rank != count || e != api.OK {
			t.Fatalf("Rank(%v): %d, %v, not %d", x.k, rank, e, count)
		}
		if k, e := r.At(i); k != x.k || e != api.OK {
			t.Fatalf("At(%d): %v, %v, not %v", i, k, e, x.k)
		}
		if x.shown {
			if k, e := r.Nth(count); k != x.k || e != api.OK {
				t.Fatalf("Nth(%d): %v, %v, not %v", count, k, e, x.k)
			}
			count++
		}
	}
	if got := r.All(); !slices.Equal(got, all) {
		t.Fatalf("All: %v, not %v", got, all)
	}
	if r.Len() != len(l) || r.Count() != count {
		t.Fatalf("Len, Count: %d, %d, not %d, %d", r.Len(), r.Count(), len(l), count)
	}
	nothingBeyond(t, r, len(l), count)
	for _, k := range absent {
		notThere(t, r, k)
	}
}

func nothingBeyond[K comparable](t *testing.T, r *rope.Rope[K], items, shown int) {
	t.Helper()
	var none K
	for _, i := range beyond(items) {
		if k, e := r.At(i); k != none || e != api.ErrRopePlace {
			t.Fatalf("At(%d) of %d: %v, %v", i, items, k, e)
		}
	}
	for _, n := range beyond(shown) {
		if k, e := r.Nth(n); k != none || e != api.ErrRopePlace {
			t.Fatalf("Nth(%d) of %d: %v, %v", n, shown, k, e)
		}
	}
}

func notThere[K comparable](t *testing.T, r *rope.Rope[K], k K) {
	t.Helper()
	if place, e := r.Place(k); place != 0 || e != api.ErrRopeItem {
		t.Fatalf("Place(%v), which is not there: %d, %v", k, place, e)
	}
	if rank, e := r.Rank(k); rank != 0 || e != api.ErrRopeItem {
		t.Fatalf("Rank(%v), which is not there: %d, %v", k, rank, e)
	}
	for _, shown := range []bool{true, false} {
		if e := r.Show(k, shown); e != api.ErrRopeItem {
			t.Fatalf("Show(%v), which is not there: %v", k, e)
		}
	}
}

// inserts holds that Insert is OK, shows that Show is; refuses that Insert answers an error.
func inserts[K comparable](t *testing.T, r *rope.Rope[K], at int, k K, shown bool) {
	t.Helper()
	refuses(t, r, at, k, shown, api.OK)
}

func refuses[K comparable](t *testing.T, r *rope.Rope[K], at int, k K, shown bool, want api.Errno) {
	t.Helper()
	if e := r.Insert(at, k, shown); e != want {
		t.Fatalf("Insert(%d, %v, %v): %v, not %v", at, k, shown, e, want)
	}
}

func shows[K comparable](t *testing.T, r *rope.Rope[K], k K, shown bool) {
	t.Helper()
	if e := r.Show(k, shown); e != api.OK {
		t.Fatalf("Show(%v, %v): %v", k, shown, e)
	}
}

// W1: a rope that has nothing.
func TestNew(t *testing.T) {
	r, other := rope.New[string](), rope.New[string]()
	if r == nil || other == nil || r == other {
		t.Fatalf("New: %p, %p", r, other)
	}
	check(t, r, nil, "", "a")
	for _, at := range slices.DeleteFunc(beyond(0), func(at int) bool { return at == 0 }) {
		refuses(t, r, at, "a", true, api.ErrRopePlace)
		check(t, r, nil, "", "a")
	}
	inserts(t, r, 0, "a", true)
	check(t, r, row("A"), "", "b")
	check(t, other, nil, "", "a")
}

// W1: at the beginning, in the midst and at the end, shown and not.
func TestInsert(t *testing.T) {
	r := rope.New[string]()
	for _, step := range []struct {
		at    int
		k     string
		shown bool
		want  string
	}{
		{0, "c", true, "C"},
		{0, "a", false, "aC"},
		{2, "e", true, "aCE"},
		{1, "b", true, "aBCE"},
		{3, "d", false, "aBCdE"},
		{0, "z", true, "ZaBCdE"},
		{6, "f", false, "ZaBCdEf"},
		{5, "x", true, "ZaBCdXEf"},
	} {
		inserts(t, r, step.at, step.k, step.shown)
		check(t, r, row(step.want), "", "y", "aa")
	}
}

// W1: at each place of each short row, of whatever is shown there.
func TestInsertEachPlace(t *testing.T) {
	for n := range 6 {
		for shown := range 1 << n {
			var l []thing[int]
			for i := range n {
				l = append(l, thing[int]{i, shown>>i&1 == 1})
			}
			for at := range n + 1 {
				for _, x := range []thing[int]{{99, true}, {99, false}} {
					r := of(t, l)
					check(t, r, l, 99)
					inserts(t, r, at, x.k, x.shown)
					check(t, r, slices.Insert(slices.Clone(l), at, x), -1, 98)
				}
			}
		}
	}
}

// W1: a place that is not 0 to Len.
func TestInsertBeyond(t *testing.T) {
	for _, letters := range []string{"a", "A", "aBc", "ABCDEFGH", "abcdefgh"} {
		l := row(letters)
		r := of(t, l)
		for _, at := range slices.DeleteFunc(beyond(len(l)), func(at int) bool { return at == len(l) }) {
			for _, shown := range []bool{true, false} {
				refuses(t, r, at, "new", shown, api.ErrRopePlace)
			}
			check(t, r, l, "new")
		}
		inserts(t, r, len(l), "new", true)
		check(t, r, append(l, thing[string]{"new", true}), "x")
	}
}

// W1: an item that is there, at whatever place: it is asked ahead of the place; whether it is shown stays.
func TestInsertThere(t *testing.T) {
	l := row("aBcD")
	r := of(t, l)
	for _, x := range l {
		for _, at := range append(beyond(4), 0, 1, 2, 3) {
			for _, shown := range []bool{true, false} {
				refuses(t, r, at, x.k, shown, api.ErrRopeItem)
			}
			check(t, r, l, "e")
		}
	}
}

// W1: shown, no longer shown, and shown again; what is shown is shown once more, what is not is hidden once more.
func TestShow(t *testing.T) {
	r := of(t, row("aBcDe"))
	for _, step := range []struct {
		k     string
		shown bool
		want  string
	}{
		{"b", true, "aBcDe"}, {"b", true, "aBcDe"}, {"b", false, "abcDe"}, {"b", false, "abcDe"}, {"b", true, "aBcDe"},
		{"a", false, "aBcDe"}, {"a", true, "ABcDe"}, {"e", true, "ABcDE"}, {"e", true, "ABcDE"}, {"c", true, "ABCDE"},
		{"a", false, "aBCDE"}, {"b", false, "abCDE"}, {"c", false, "abcDE"}, {"d", false, "abcdE"}, {"e", false, "abcde"},
		{"c", false, "abcde"}, {"c", true, "abCde"}, {"c", false, "abcde"}, {"e", true, "abcdE"},
	} {
		shows(t, r, step.k, step.shown)
		check(t, r, row(step.want), "", "f")
	}
}

// W1: Show of one that is not there: with nothing there, too.
func TestShowNotThere(t *testing.T) {
	for _, letters := range []string{"", "a", "A", "aB", "ABcd"} {
		r := of(t, row(letters))
		for _, k := range []string{"", "x", "ab", "A", "a\x00"} {
			notThere(t, r, k)
			check(t, r, row(letters), k)
		}
	}
}

// sized is a row of so many, shown where the rule says so.
func sized(n int, shown func(int) bool) (l []thing[int]) {
	for i := range n {
		l = append(l, thing[int]{i, shown(i)})
	}
	return l
}

// rules tell which of many are shown: none, all, the first, the last, and some.
func rules(n int) []func(int) bool {
	return []func(int) bool{
		func(int) bool { return false },
		func(int) bool { return true },
		func(i int) bool { return i == 0 },
		func(i int) bool { return i == n-1 },
		func(i int) bool { return i != n/2 },
		func(i int) bool { return i%2 == 0 },
		func(i int) bool { return i/100%2 == 1 },
		func(i int) bool { return i > n/3 && i*2 < n },
	}
}

// W1: rows of many lengths of which none, all or some are shown, put in so, or shown and hidden behind that.
func TestLengths(t *testing.T) {
	for _, n := range []int{0, 1, 2, 3, 7, 8, 15, 16, 17, 31, 32, 33, 34, 63, 64, 65, 100, 127, 128, 129, 255, 256, 257, 513, 1000} {
		for _, rule := range rules(n) {
			check(t, of(t, sized(n, rule)), sized(n, rule), -1, n)
			for _, first := range rules(n)[:2] {
				r := of(t, sized(n, first))
				for i := range n {
					shows(t, r, i, rule(i))
				}
				check(t, r, sized(n, rule), -1, n)
			}
		}
	}
}

// growths tell where the i-th of many is put in.
func growths() map[string]func(i int) int {
	return map[string]func(int) int{
		"at the end":             func(i int) int { return i },
		"at the beginning":       func(int) int { return 0 },
		"in the midst":           func(i int) int { return i / 2 },
		"ahead of the last":      func(i int) int { return max(0, i-1) },
		"behind the first":       func(i int) int { return min(i, 1) },
		"here and there":         func(i int) int { return i * 7919 % (i + 1) },
		"at one end, the other":  func(i int) int { return i % 2 * i },
		"behind the last put in": func(i int) int { return (i + 49) / 50 % 10 * (i / 10) % (i + 1) },
	}
}

// W1: many items, put in at whatever places; held as they come to be many, and as they are shown and hidden.
func TestMany(t *testing.T) {
	const n = 2500
	for name, place := range growths() {
		t.Run(name, func(t *testing.T) {
			r, l := rope.New[int](), []thing[int](nil)
			for i := range n {
				x := thing[int]{i, i%3 > 0}
				inserts(t, r, place(i), x.k, x.shown)
				l = slices.Insert(l, place(i), x)
				if i < 200 || i%250 == 0 {
					check(t, r, l, -1, i+1)
				}
			}
			check(t, r, l, -1, n)
			for i := range l {
				l[i].shown = l[i].k%5 == 0
				shows(t, r, l[i].k, l[i].shown)
				if i%250 == 0 {
					check(t, r, l, -1, n)
				}
			}
			check(t, r, l, -1, n)
			for i, x := range l {
				refuses(t, r, i, x.k, !x.shown, api.ErrRopeItem)
				refuses(t, r, n+1+i, n+i, true, api.ErrRopePlace)
				refuses(t, r, -1-i, n+i, true, api.ErrRopePlace)
			}
			check(t, r, l, -1, n)
		})
	}
}

// So many that going through them one by one, each time, would take minutes.
func TestVeryMany(t *testing.T) {
	const n = 200000
	r := rope.New[int]()
	for i := range n {
		inserts(t, r, i/2, i, i%3 > 0)
	}
	for i, k := range r.All() {
		rank, e := r.Rank(k)
		if place, ePlace := r.Place(k); place != i || e != api.OK || ePlace != api.OK {
			t.Fatalf("Place(%d): %d, %v, not %d", k, place, ePlace, i)
		}
		if got, e := r.At(i); got != k || e != api.OK {
			t.Fatalf("At(%d): %d, %v, not %d", i, got, e, k)
		}
		if got, e := r.Nth(rank); k%3 > 0 && (got != k || e != api.OK) {
			t.Fatalf("Nth(%d): %d, %v, not %d", rank, got, e, k)
		}
	}
	for k := range n {
		shows(t, r, k, k%7 == 0)
	}
	if r.Len() != n || r.Count() != (n+6)/7 {
		t.Fatalf("%d, %d", r.Len(), r.Count())
	}
}
