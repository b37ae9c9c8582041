package rope_test

import (
	"fmt"
	"math"
	"math/rand/v2"
	"slices"
	"testing"

	"stemma/api"
	"stemma/rope"
)

// call is an Insert, or, where show is true, a Show; key says which item.
type call struct {
	show  bool
	at    int
	key   int
	shown bool
}

func (c call) String() string {
	if c.show {
		return fmt.Sprintf("Show(%d, %v)", c.key, c.shown)
	}
	return fmt.Sprintf("Insert(%d, %d, %v)", c.at, c.key, c.shown)
}

// book is the chapter read word by word: a row, gone through one by one.
type book[K comparable] struct {
	row []thing[K]
}

func (b *book[K]) find(k K) int {
	return slices.IndexFunc(b.row, func(x thing[K]) bool { return x.k == k })
}

func (b *book[K]) insert(at int, k K, shown bool) api.Errno {
	if b.find(k) >= 0 {
		return api.ErrRopeItem
	}
	if at < 0 || at > len(b.row) {
		return api.ErrRopePlace
	}
	b.row = slices.Insert(b.row, at, thing[K]{k, shown})
	return api.OK
}

func (b *book[K]) show(k K, shown bool) api.Errno {
	i := b.find(k)
	if i < 0 {
		return api.ErrRopeItem
	}
	b.row[i].shown = shown
	return api.OK
}

// tally is how often something came about in scripts: a test that held nothing of it would hold nothing.
type tally struct {
	inserted, there, beyond, shown, hidden, same, notThere, longest int
}

func (n *tally) count(c call, e api.Errno, ahead, behind, items int) {
	n.longest = max(n.longest, items)
	switch {
	case !c.show && e == api.OK:
		n.inserted++
	case !c.show && e == api.ErrRopeItem:
		n.there++
	case !c.show:
		n.beyond++
	case e != api.OK:
		n.notThere++
	case behind > ahead:
		n.shown++
	case behind < ahead:
		n.hidden++
	default:
		n.same++
	}
}

// enough holds that each thing came about so often.
func (n *tally) enough(t *testing.T, often int) {
	t.Helper()
	if min(n.inserted, n.there, n.beyond, n.shown, n.hidden, n.same, n.notThere) < often {
		t.Errorf("too little came about: %+v", *n)
	}
}

// play holds each call of a script against the chapter, and all that is told each so many calls, and at the end; the items are what `item` makes of the keys, which go up to some number.
func play[K comparable](t *testing.T, script []call, item func(int) K, keys, each int, n *tally) *rope.Rope[K] {
	t.Helper()
	r, b := rope.New[K](), &book[K]{}
	for i, c := range script {
		k, ahead := item(c.key), r.Count()
		var got, want api.Errno
		if c.show {
			got, want = r.Show(k, c.shown), b.show(k, c.shown)
		} else {
			got, want = r.Insert(c.at, k, c.shown), b.insert(c.at, k, c.shown)
		}
		if got != want {
			t.Fatalf("%v: the last answers %v, not %v", script[:i+1], got, want)
		}
		n.count(c, got, ahead, r.Count(), r.Len())
		if each > 0 && i%each == 0 {
			checkBook(t, r, b, item, keys)
		}
	}
	checkBook(t, r, b, item, keys)
	return r
}

func checkBook[K comparable](t *testing.T, r *rope.Rope[K], b *book[K], item func(int) K, keys int) {
	t.Helper()
	var absent []K
	for key := range keys + 1 {
		if b.find(item(key)) < 0 {
			absent = append(absent, item(key))
		}
	}
	check(t, r, b.row, absent...)
}

func number(i int) int { return i }

// someCalls are all calls with so many keys and with some places.
func someCalls(keys int, places ...int) (l []call) {
	for key := range keys {
		for _, shown := range []bool{true, false} {
			l = append(l, call{show: true, key: key, shown: shown})
			for _, at := range places {
				l = append(l, call{at: at, key: key, shown: shown})
			}
		}
	}
	return l
}

// scripts plays all scripts of so many of some calls.
func scripts(t *testing.T, of []call, calls int, n *tally) {
	t.Helper()
	script := make([]call, calls)
	var fill func(i int)
	fill = func(i int) {
		if i == calls {
			play(t, script, number, 3, 0, n)
			return
		}
		for _, c := range of {
			script[i] = c
			fill(i + 1)
		}
	}
	fill(0)
}

// W1 (P11.1, P11.2): all short scripts of few calls.
func TestShortScripts(t *testing.T) {
	var n tally
	for calls := range 4 {
		scripts(t, someCalls(3, -1, 0, 1, 2, 3), calls, &n)
	}
	scripts(t, someCalls(3, 0, 1), 4, &n)
	scripts(t, someCalls(2, 0, 1), 5, &n)
	n.enough(t, 1000)
}

// where is a place of a row of so many, as the kind of growth says; sometimes one that is none.
func where(r *rand.Rand, kind, last, items int) int {
	if r.IntN(20) == 0 {
		return []int{math.MinInt, -1, items + 1, items + r.IntN(9), math.MaxInt}[r.IntN(5)]
	}
	switch kind {
	case 0:
		return items
	case 1:
		return 0
	case 2:
		return min(items, last+1) // typed forward
	case 3:
		return min(items, last) // and backward
	}
	return r.IntN(items + 1)
}

// whatever is a script of so many calls with some keys.
func whatever(r *rand.Rand, calls, keys int) (script []call) {
	kind, last := r.IntN(5), 0
	there := map[int]bool{}
	for range calls {
		c := call{show: r.IntN(3) == 0, key: r.IntN(keys), shown: r.IntN(3) > 0}
		if items := len(there); !c.show {
			c.at = where(r, kind, last, items)
			if c.at >= 0 && c.at <= items {
				there[c.key], last = true, c.at
			}
		}
		if r.IntN(50) == 0 {
			kind, last = r.IntN(5), r.IntN(len(there)+1)
		}
		script = append(script, c)
	}
	return script
}

// W1 (P11.1, P11.2): long scripts of whatever.
func TestLongScripts(t *testing.T) {
	r := rand.New(rand.NewPCG(11, 1))
	var n tally
	for range 400 {
		keys := 1 + r.IntN(600)
		play(t, whatever(r, r.IntN(900), keys), number, keys, 60, &n)
	}
	n.enough(t, 1000)
	for range 4 {
		play(t, whatever(r, 20000, 9000), number, 9000, 10000, &n)
	}
	if n.longest < 5000 {
		t.Errorf("too few items: %+v", n)
	}
}

// numbered is an item of two parts.
type numbered struct {
	name string
	no   [2]int8
}

// W1: items of several types.
func TestTypes(t *testing.T) {
	r := rand.New(rand.NewPCG(11, 2))
	var n tally
	for range 30 {
		script := whatever(r, 400, 250)
		pointers := make([]int, 256)
		play(t, script, func(i int) string { return fmt.Sprint("item ", i) }, 250, 100, &n)
		play(t, script, func(i int) string { return string(make([]byte, i)) }, 250, 100, &n)
		play(t, script, func(i int) api.Stamp { return api.Stamp{N: i / 8, R: i % 8} }, 250, 100, &n)
		play(t, script, func(i int) byte { return byte(i) }, 250, 100, &n)
		play(t, script, func(i int) int8 { return int8(i) }, 250, 100, &n)
		play(t, script, func(i int) uint64 { return math.MaxUint64 - uint64(i) }, 250, 100, &n)
		play(t, script, func(i int) rune { return rune(i) }, 250, 100, &n)
		play(t, script, func(i int) float64 { return float64(i) / 3 }, 250, 100, &n)
		play(t, script, func(i int) complex128 { return complex(float64(i%9), float64(i)) }, 250, 100, &n)
		play(t, script, func(i int) [3]int { return [3]int{i % 2, i, i % 3} }, 250, 100, &n)
		play(t, script, func(i int) numbered { return numbered{"n", [2]int8{int8(i % 99), int8(i / 99)}} }, 250, 100, &n)
		play(t, script, func(i int) api.Op { return api.Op{Key: fmt.Sprint(i), Deps: api.Vector{i}} }, 250, 100, &n)
		play(t, script, func(i int) *int { return &pointers[i] }, 250, 100, &n)
		play(t, script, func(i int) any { return []any{nil, i, fmt.Sprint(i), api.Errno(i), &pointers[i]}[min(i, i%4+1)] }, 250, 100, &n)
	}
	n.enough(t, 1000)
}

// W1: types that have few items.
func TestFewOfAType(t *testing.T) {
	r := rand.New(rand.NewPCG(11, 3))
	for range 300 {
		var n tally
		script := whatever(r, 30, 4)
		play(t, script, func(i int) bool { return i%2 == 0 }, 1, 1, &n)
		play(t, script, func(int) struct{} { return struct{}{} }, 0, 1, &n)
		play(t, script, func(int) [0]int { return [0]int{} }, 0, 1, &n)
		play(t, script, func(int) error { return nil }, 0, 1, &n)
	}
}

// W1, rule 2: an item that is its type's zero value is one like others: what is answered beside an error is told from it by the error.
func TestZeroItem(t *testing.T) {
	r := of(t, []thing[int]{{5, false}, {0, true}, {7, true}})
	check(t, r, []thing[int]{{5, false}, {0, true}, {7, true}}, 1)
	shows(t, r, 0, false)
	check(t, r, []thing[int]{{5, false}, {0, false}, {7, true}}, 1)
	refuses(t, r, 3, 0, true, api.ErrRopeItem)
}

// W1 (P11.1, P11.2): scripts as bytes.
func FuzzScript(f *testing.F) {
	f.Add([]byte{0, 0, 1, 1, 0, 2, 2, 0, 1, 3, 0, 2})
	f.Add([]byte{0, 0, 1, 0, 2, 2, 0, 255, 3, 1, 1, 1, 1, 0, 1})
	long := []byte{}
	for i := range 300 {
		long = append(long, byte(i*7%8), byte(i*31%40), byte(i*13))
	}
	f.Add(long)
	f.Fuzz(func(t *testing.T, b []byte) {
		var script []call
		for ; len(b) > 2 && len(script) < 400; b = b[3:] {
			at := int(b[1])
			if b[0]&4 > 0 {
				at = len(script) - at // near the end
			}
			script = append(script, call{b[0]&1 > 0, at, int(b[2]), b[0]&2 > 0})
		}
		play(t, script, number, 255, 100, &tally{})
	})
}
