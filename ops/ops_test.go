package ops_test

import (
	"math"
	"slices"
	"strings"
	"testing"

	"stemma/api"
	"stemma/ops"
)

func at(n, r int) api.Stamp { return api.Stamp{N: n, R: r} }

// known is what the operations of some lean on.
var known = api.Vector{4, 0, 3, 8, 0, 0, 0, 2}

func inserting() api.Op {
	return api.Op{ID: at(9, 2), Deps: known, Kind: api.Insert, Ref: at(4, 0), Side: api.Left, Ch: 'x'}
}

func beginning() api.Op {
	return api.Op{ID: at(9, 0), Deps: known, Kind: api.Insert, Side: api.Right}
}

func deleting() api.Op {
	return api.Op{ID: at(9, 2), Deps: known, Kind: api.Delete, Ref: at(3, 2)}
}

func moving() api.Op {
	return api.Op{ID: at(9, 2), Deps: known, Kind: api.Move, Ref: at(2, 7), Under: at(1, 7), Key: "0a9"}
}

func setting() api.Op {
	return api.Op{ID: at(9, 2), Deps: known, Kind: api.Set, Ref: at(8, 3), Name: "kind", Value: "para"}
}

func marking() api.Op {
	return api.Op{ID: at(9, 2), Deps: known, Kind: api.Mark, Name: "bold", Value: "yes", From: api.Anchor{ID: at(4, 0)}, To: api.Anchor{ID: at(2, 7), After: true}}
}

// some are right operations of each kind.
func some() []api.Op {
	return []api.Op{inserting(), beginning(), deleting(), moving(), setting(), marking()}
}

// with is an operation with some changes.
func with(o api.Op, changes ...change) api.Op {
	for _, c := range changes {
		c(&o)
	}
	return o
}

func checkRight(t *testing.T, o api.Op, want bool) {
	t.Helper()
	if got := ops.Right(o); got != want {
		t.Errorf("Right(%+v): %v", o, got)
	}
}

// O1: Right, of ordinary operations.
func TestRight(t *testing.T) {
	for _, o := range some() {
		checkRight(t, o, true)
	}
	checkRight(t, api.Op{ID: at(1, 0), Kind: api.Insert, Side: api.Right, Ch: 'a'}, true)
	checkRight(t, api.Op{}, false)
}

// O1: Right, of kinds that are none.
func TestRightOfNoKind(t *testing.T) {
	for _, kind := range []api.Kind{math.MinInt, -1, 0, 6, 7, 1<<32 + 1, math.MaxInt} {
		checkRight(t, api.Op{ID: at(9, 2), Kind: kind}, false)
		for _, o := range some() {
			checkRight(t, with(o, func(o *api.Op) { o.Kind = kind }), false)
		}
	}
}

// O1: Right, of an ID.
func TestRightOfID(t *testing.T) {
	for id, want := range map[api.Stamp]bool{
		at(9, 0): true, at(9, 7): true, at(1<<20, 7): true,
		{}: false, at(0, 2): false, at(-1, 2): false, at(1<<20+1, 2): false, at(math.MaxInt, 2): false, at(math.MinInt, 2): false,
		at(9, -1): false, at(9, 8): false, at(9, math.MaxInt): false, at(9, math.MinInt): false,
	} {
		for _, o := range some() {
			checkRight(t, with(o, func(o *api.Op) { o.ID = id }), want)
		}
	}
	first := api.Op{Kind: api.Insert, Side: api.Right}
	checkRight(t, with(first, func(o *api.Op) { o.ID = at(1, 7) }), true)
	checkRight(t, first, false) // nothing is known, and so its own counter has to be above 0
}

// O1: Right, of each number of Deps, that of its own replica, too.
func TestRightOfDeps(t *testing.T) {
	for r := range api.MaxReplicas {
		o := api.Op{ID: at(9, 2), Kind: api.Insert, Side: api.Right}
		for n, want := range map[int]bool{0: true, 1: true, 8: true, 9: false, 10: false, -1: false, 1 << 20: false, 1<<20 + 1: false, math.MaxInt: false, math.MinInt: false} {
			checkRight(t, with(o, func(o *api.Op) { o.Deps[r] = n }), want)
		}
		last := with(o, func(o *api.Op) { o.ID.N = 1 << 20 })
		for n, want := range map[int]bool{1<<20 - 1: true, 1 << 20: false, 1<<20 + 1: false} {
			checkRight(t, with(last, func(o *api.Op) { o.Deps[r] = n }), want)
		}
	}
	checkRight(t, with(inserting(), func(o *api.Op) { o.Deps = api.Vector{8, 8, 8, 8, 8, 8, 8, 8} }), true)
	checkRight(t, with(inserting(), func(o *api.Op) { o.Deps = api.Vector{8, 8, 8, 8, 8, 8, 8, 9} }), false)
}

// O1: Right, of each stamp that a kind names: it is right, and one of Deps.
func TestRightOfNamed(t *testing.T) {
	for _, c := range []struct {
		o  api.Op
		at func(*api.Op) *api.Stamp
	}{
		{with(inserting(), func(o *api.Op) { o.Side = api.Right }), func(o *api.Op) *api.Stamp { return &o.Ref }},
		{deleting(), func(o *api.Op) *api.Stamp { return &o.Ref }},
		{moving(), func(o *api.Op) *api.Stamp { return &o.Ref }},
		{moving(), func(o *api.Op) *api.Stamp { return &o.Under }},
		{setting(), func(o *api.Op) *api.Stamp { return &o.Ref }},
		{marking(), func(o *api.Op) *api.Stamp { return &o.From.ID }},
		{marking(), func(o *api.Op) *api.Stamp { return &o.To.ID }},
	} {
		for s, want := range map[api.Stamp]bool{
			at(4, 0): true, at(3, 0): true, at(1, 0): true, at(5, 0): false, // just the one of Deps; greater
			at(3, 2): true, at(4, 2): false, at(9, 2): false, // of its own replica; itself
			at(8, 3): true, at(9, 3): false,
			at(1, 1): false, at(1, 6): false, // nothing of them is known
			at(0, 0): c.o.Kind == api.Insert || c.at(&c.o) == &c.o.Under,
			at(0, 1): false, at(0, 7): false, at(0, -1): false, at(0, 8): false,
			at(-1, 0): false, at(math.MinInt, 0): false, at(math.MaxInt, 0): false,
			at(1, -1): false, at(1, 8): false, at(1, math.MinInt): false, at(1, math.MaxInt): false,
		} {
			checkRight(t, with(c.o, func(o *api.Op) { *c.at(o) = s }), want)
		}
	}
}

// O1: Right, of an Insert.
func TestRightOfInsert(t *testing.T) {
	for side, want := range map[api.Side]bool{api.Left: true, api.Right: true, 0: false, 3: false, -1: false, math.MinInt: false, math.MaxInt: false} {
		checkRight(t, with(inserting(), func(o *api.Op) { o.Side = side }), want)
		checkRight(t, with(beginning(), func(o *api.Op) { o.Side = side }), side == api.Right)
	}
	for ch := -300; ch < 600; ch++ {
		want := ch == 0 || 32 <= ch && ch <= 126
		checkRight(t, with(inserting(), func(o *api.Op) { o.Ch = ch }), want)
		checkRight(t, with(beginning(), func(o *api.Op) { o.Ch = ch }), want)
	}
	for _, ch := range []int{math.MinInt, math.MaxInt, 1<<32 + 'a', 1 << 32, 1 << 8} {
		checkRight(t, with(inserting(), func(o *api.Op) { o.Ch = ch }), false)
	}
}

// O1: Right, of a Move's Under and Key.
func TestRightOfMove(t *testing.T) {
	checkRight(t, with(moving(), func(o *api.Op) { o.Under = at(0, 0) }), true)
	checkRight(t, with(moving(), func(o *api.Op) { o.Under = o.Ref }), false)
	checkRight(t, with(moving(), func(o *api.Op) { o.Under = at(4, 0) }), true)
	checkRight(t, with(moving(), func(o *api.Op) { o.Ref = at(0, 0) }), false)
	checkRight(t, with(moving(), func(o *api.Op) { o.Ref, o.Under = at(0, 0), at(0, 0) }), false)
	for key, want := range map[string]bool{
		"1": true, "9": true, "a": true, "z": true, "01": true, "00z": true, "0a0b": true, "az09": true,
		strings.Repeat("z", 64): true, strings.Repeat("0", 63) + "1": true,
		"": false, "0": false, "a0": false, "10": false, "00": false, strings.Repeat("z", 63) + "0": false,
		strings.Repeat("z", 65): false, strings.Repeat("1", 128): false, strings.Repeat("1", 1<<16): false,
		"A": false, "Z": false, "aB": false, "a b": false, " a": false, "a ": false, "a-b": false, "é": false, "\xff": false, "٣": false,
	} {
		checkRight(t, with(moving(), func(o *api.Op) { o.Key = key }), want)
	}
	for b := range 256 {
		in := b >= '0' && b <= '9' || b >= 'a' && b <= 'z'
		checkRight(t, with(moving(), func(o *api.Op) { o.Key = string([]byte{byte(b), 'a'}) }), in)
		checkRight(t, with(moving(), func(o *api.Op) { o.Key = string([]byte{'a', byte(b), '1'}) }), in)
		checkRight(t, with(moving(), func(o *api.Op) { o.Key = string([]byte{'a', byte(b)}) }), in && b != '0')
		checkRight(t, with(moving(), func(o *api.Op) { o.Key = string([]byte{byte(b)}) }), in && b != '0')
	}
}

// O1: Right, of names and values.
func TestRightOfNamesAndValues(t *testing.T) {
	for _, o := range []api.Op{setting(), marking()} {
		for name, want := range map[string]bool{
			"a": true, "z": true, "bold": true, "abcdefgh": true, "zzzzzzzz": true,
			"": false, "abcdefghi": false, strings.Repeat("a", 64): false, "A": false, "aB": false, "a1": false, "a b": false, "é": false, "\xff": false,
		} {
			checkRight(t, with(o, func(o *api.Op) { o.Name = name }), want)
		}
		for value, want := range map[string]bool{
			"": true, " ": true, "~": true, " ~": true, "A-z 0.9\"'\\": true, strings.Repeat(" ", 16): true, strings.Repeat("~", 16): true,
			strings.Repeat("~", 17): false, strings.Repeat("a", 1<<16): false, "é": false, "a\n": false, "\xff": false,
		} {
			checkRight(t, with(o, func(o *api.Op) { o.Value = value }), want)
		}
		for b := range 256 {
			checkRight(t, with(o, func(o *api.Op) { o.Name = string([]byte{'m', byte(b), 'm'}) }), b >= 'a' && b <= 'z')
			checkRight(t, with(o, func(o *api.Op) { o.Name = string([]byte{byte(b)}) }), b >= 'a' && b <= 'z')
			checkRight(t, with(o, func(o *api.Op) { o.Value = string([]byte{'m', byte(b), 'm'}) }), b >= 32 && b <= 126)
			checkRight(t, with(o, func(o *api.Op) { o.Value = string([]byte{byte(b)}) }), b >= 32 && b <= 126)
		}
	}
}

// O1: Right, of a Mark's anchors: any two, before or behind, one stamp too.
func TestRightOfMark(t *testing.T) {
	for _, from := range []bool{false, true} {
		for _, to := range []bool{false, true} {
			for _, s := range []api.Stamp{at(4, 0), at(2, 7), at(1, 3)} {
				checkRight(t, with(marking(), func(o *api.Op) { o.From, o.To = api.Anchor{ID: s, After: from}, api.Anchor{ID: at(2, 7), After: to} }), true)
				checkRight(t, with(marking(), func(o *api.Op) { o.From, o.To = api.Anchor{ID: s, After: from}, api.Anchor{After: to} }), false)
				checkRight(t, with(marking(), func(o *api.Op) { o.From, o.To = api.Anchor{After: from}, api.Anchor{ID: s, After: to} }), false)
			}
		}
	}
}

// O1: Right, where a field that the kind does not use is not empty, one at a time.
func TestRightOfOtherFields(t *testing.T) {
	fill := map[string]change{
		"Ref":        func(o *api.Op) { o.Ref = at(4, 0) },
		"Side":       func(o *api.Op) { o.Side = api.Right },
		"Ch":         func(o *api.Op) { o.Ch = 'a' },
		"Under":      func(o *api.Op) { o.Under = at(4, 0) },
		"Key":        func(o *api.Op) { o.Key = "a" },
		"Name":       func(o *api.Op) { o.Name = "a" },
		"Value":      func(o *api.Op) { o.Value = "a" },
		"From.ID":    func(o *api.Op) { o.From.ID = at(4, 0) },
		"From.After": func(o *api.Op) { o.From.After = true },
		"To.ID":      func(o *api.Op) { o.To.ID = at(4, 0) },
		"To.After":   func(o *api.Op) { o.To.After = true },
	}
	for _, o := range some() {
		uses := strings.Fields(fieldsOf[o.Kind])
		for name, c := range fill {
			field, _, _ := strings.Cut(name, ".")
			checkRight(t, with(o, c), slices.Contains(uses, field))
		}
	}
}

// O1: Sort.
func TestSort(t *testing.T) {
	l := []api.Op{
		{ID: at(2, 1)}, {ID: at(10, 0)}, {ID: at(2, 0)}, {ID: at(1, 7)}, {ID: at(2, 1), Ch: 1}, {ID: at(9, 7)}, {ID: at(1, 7), Ch: 1}, {ID: at(2, 1), Ch: -1},
		{}, {ID: at(math.MaxInt, 0)}, {ID: at(math.MinInt, 0)}, {ID: at(2, math.MaxInt)}, {ID: at(2, math.MinInt)},
	}
	want := []api.Op{
		{ID: at(math.MinInt, 0)}, {}, {ID: at(1, 7)}, {ID: at(1, 7), Ch: 1},
		{ID: at(2, math.MinInt)}, {ID: at(2, 0)}, {ID: at(2, 1)}, {ID: at(2, 1), Ch: 1}, {ID: at(2, 1), Ch: -1}, {ID: at(2, math.MaxInt)},
		{ID: at(9, 7)}, {ID: at(10, 0)}, {ID: at(math.MaxInt, 0)},
	}
	if got := ops.Sort(l); !slices.Equal(got, want) {
		t.Errorf("Sort: %+v", got)
	}
	if got := ops.Sort(want); !slices.Equal(got, want) {
		t.Errorf("Sort of what is sorted: %+v", got)
	}
	if len(ops.Sort(nil)) != 0 || len(ops.Sort([]api.Op{})) != 0 {
		t.Error("Sort of no operations")
	}
}

// O1: Sort of many with one stamp: they stay as they stood.
func TestSortStays(t *testing.T) {
	var l []api.Op
	for i := range 3000 {
		l = append(l, api.Op{ID: at(1+i*7%5, i*3%8), Ch: i})
	}
	if got := ops.Sort(l); !isSorted(got, l) {
		t.Error("Sort: not by rising stamps, or two of one stamp are turned round")
	}
}

// O1: Most.
func TestMost(t *testing.T) {
	for _, c := range []struct {
		ids  []api.Stamp
		want api.Vector
	}{
		{nil, api.Vector{}},
		{[]api.Stamp{at(3, 0)}, api.Vector{3}},
		{[]api.Stamp{at(3, 0), at(9, 0), at(4, 0)}, api.Vector{9}},
		{[]api.Stamp{at(1, 0), at(2, 1), at(3, 2), at(4, 3), at(5, 4), at(6, 5), at(7, 6), at(8, 7)}, api.Vector{1, 2, 3, 4, 5, 6, 7, 8}},
		{[]api.Stamp{at(5, 7), at(5, 7), at(2, 3)}, api.Vector{3: 2, 7: 5}},
		{[]api.Stamp{at(5, 8), at(6, -1), at(7, math.MaxInt), at(8, math.MinInt), at(9, 16), at(9, 1<<32)}, api.Vector{}},
		{[]api.Stamp{at(5, 8), at(6, 6), at(7, -1)}, api.Vector{6: 6}},
		{[]api.Stamp{at(1<<20, 2), at(1<<20+1, 3), at(math.MaxInt, 4)}, api.Vector{2: 1 << 20, 3: 1<<20 + 1, 4: math.MaxInt}},
		// what is below 1 is no counter
		{[]api.Stamp{{}, at(0, 5), at(-1, 1), at(math.MinInt, 2)}, api.Vector{}},
	} {
		var l []api.Op
		for _, id := range c.ids {
			l = append(l, api.Op{ID: id})
		}
		if got := ops.Most(l); got != c.want {
			t.Errorf("Most of %v: %v, not %v", c.ids, got, c.want)
		}
	}
	if got := ops.Most(some()); got != (api.Vector{9, 0, 9}) {
		t.Errorf("Most, of each kind: %v", got)
	}
}
