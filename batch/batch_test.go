package batch_test

import (
	"bytes"
	"encoding/binary"
	"fmt"
	"math"
	"slices"
	"strings"
	"testing"

	"stemma/api"
	"stemma/batch"
)

func at(n, r int) api.Stamp { return api.Stamp{N: n, R: r} }

// known is what the operations of some lean on.
var known = api.Vector{4, 0, 3, 8, 0, 0, 0, 2}

func inserting() api.Op {
	return api.Op{ID: at(9, 2), Deps: known, Kind: api.Insert, Ref: at(4, 0), Side: api.Left, Ch: 'x'}
}

func beginning() api.Op {
	return api.Op{ID: at(9, 0), Deps: known, Kind: api.Insert, Side: api.Right}
}

func deleting() api.Op {
	return api.Op{ID: at(9, 2), Deps: known, Kind: api.Delete, Ref: at(3, 2)}
}

func moving() api.Op {
	return api.Op{ID: at(9, 2), Deps: known, Kind: api.Move, Ref: at(2, 7), Under: at(1, 7), Key: "0a9"}
}

func setting() api.Op {
	return api.Op{ID: at(9, 2), Deps: known, Kind: api.Set, Ref: at(8, 3), Name: "kind", Value: "para"}
}

func marking() api.Op {
	return api.Op{ID: at(9, 2), Deps: known, Kind: api.Mark, Name: "bold", Value: "yes", From: api.Anchor{ID: at(4, 0)}, To: api.Anchor{ID: at(2, 7), After: true}}
}

// some are right operations of each kind.
func some() []api.Op {
	return []api.Op{inserting(), beginning(), deleting(), moving(), setting(), marking()}
}

// first is the first one that a replica makes.
func first() api.Op {
	return api.Op{ID: at(1, 0), Kind: api.Insert, Side: api.Right, Ch: 'a'}
}

// many are so many operations that somebody types.
func many(n int) []api.Op {
	var l []api.Op
	for i := range n {
		o := api.Op{ID: at(i+1, 3), Kind: api.Insert, Side: api.Right, Ch: 32 + i%95}
		if i > 0 {
			o.Deps[3], o.Ref = i, at(i, 3)
		}
		l = append(l, o)
	}
	return l
}

// brief is what a failure tells of operations: their beginning.
func brief(l []api.Op) string {
	return fmt.Sprintf("%d: %.600s", len(l), fmt.Sprintf("%+v", l))
}

// checkThere holds that a list's bytes are these, and that the way back leads to the list.
func checkThere(t *testing.T, l []api.Op, want []byte) {
	t.Helper()
	b, e := batch.Encode(l)
	if e != api.OK || !bytes.Equal(b, want) {
		t.Errorf("Encode of %s: %v, %v, not %v", brief(l), b, e, want)
	}
	got, e := batch.Decode(want)
	if e != api.OK || !slices.Equal(got, l) {
		t.Errorf("Decode of %v: %s, %v, not %s", want, brief(got), e, brief(l))
	}
}

// checkRefused holds that a list has no bytes.
func checkRefused(t *testing.T, l []api.Op, want api.Errno) {
	t.Helper()
	if b, e := batch.Encode(l); e != want || len(b) != 0 {
		t.Errorf("Encode of %s: %v, %v", brief(l), b, e)
	}
}

// checkNone holds that bytes are those of no list.
func checkNone(t *testing.T, b []byte) {
	t.Helper()
	if l, e := batch.Decode(b); e != api.ErrBatch || len(l) != 0 {
		t.Errorf("Decode of %v: %s, %v", b, brief(l), e)
	}
}

// E1, E2: bytes that were put by hand.
func TestBytes(t *testing.T) {
	a := first()
	b := api.Op{ID: at(2, 1), Deps: api.Vector{1}, Kind: api.Insert, Ref: a.ID, Side: api.Right, Ch: 'b'}
	m := api.Op{ID: at(3, 0), Deps: api.Vector{1, 2}, Kind: api.Mark, Name: "bold", Value: "yes", From: api.Anchor{ID: a.ID}, To: api.Anchor{ID: b.ID, After: true}}
	v := api.Op{ID: at(300, 7), Deps: api.Vector{1, 2, 0, 0, 0, 0, 0, 299}, Kind: api.Move, Ref: at(256, 7), Under: at(2, 1), Key: "0z"}
	checkThere(t, []api.Op{a, b, m}, slices.Concat(
		[]byte{3},
		[]byte{3, 2},                                                                       // ID's N: 1, and twice 1 more
		[]byte{1, 0, 1, 2, 1, 0},                                                           // ID's R: 0, 1, 0
		[]byte{1, 0, 1, 2, 1, 0},                                                           // Deps: 0, then 1 more, and no more
		[]byte{2, 0, 1, 4},                                                                 // 0, 0, and 2 more
		[]byte{3, 0}, []byte{3, 0}, []byte{3, 0}, []byte{3, 0}, []byte{3, 0}, []byte{3, 0}, // and nothing of the six others
		[]byte{2, 2, 1, 10},                // Kind: 1, 1, 5
		[]byte{1, 0, 1, 2, 1, 1},           // Ref's N: 0, then 1 more, then 1 less
		[]byte{3, 0},                       // Ref's R
		[]byte{2, 4, 1, 0},                 // Side: 2, 2, 0
		[]byte{1, 194, 1, 1, 196, 1, 1, 0}, // Ch: 97, 98, 0
		[]byte{3, 0}, []byte{3, 0},         // Under
		[]byte{2, 0, 1, 2}, []byte{3, 0}, // From's N: 0, 0, 1; its R
		[]byte{2, 0, 1, 4}, []byte{2, 0, 1, 2}, // To's N: 0, 0, 2; its R: 0, 0, 1
		[]byte{3},    // From's After: thrice false
		[]byte{2, 1}, // To's: twice false, once true
		[]byte{3, 0}, // no Key
		[]byte{2, 0, 1, 8}, []byte("bold"),
		[]byte{2, 0, 1, 6}, []byte("yes"),
	))
	checkThere(t, []api.Op{v, m}, slices.Concat(
		[]byte{2},
		[]byte{1, 216, 4, 1, 209, 4}, // ID's N: 300, and 297 less
		[]byte{1, 14, 1, 0},
		[]byte{1, 2, 1, 0}, []byte{1, 4, 1, 0}, []byte{2, 0}, []byte{2, 0}, []byte{2, 0}, []byte{2, 0}, []byte{2, 0}, []byte{1, 214, 4, 1, 213, 4},
		[]byte{1, 6, 1, 10},
		[]byte{1, 128, 4, 1, 255, 3}, []byte{1, 14, 1, 0}, // Ref: 256.7, none
		[]byte{2, 0}, []byte{2, 0},
		[]byte{1, 4, 1, 0}, []byte{1, 2, 1, 0}, // Under: 2.1, none
		[]byte{1, 0, 1, 2}, []byte{2, 0}, // From: none, 1.0
		[]byte{1, 0, 1, 4}, []byte{1, 0, 1, 2}, // To: none, 2.1
		[]byte{2}, []byte{1, 1},
		[]byte{1, 4, 1, 0}, []byte("0z"),
		[]byte{1, 0, 1, 8}, []byte("bold"),
		[]byte{1, 0, 1, 6}, []byte("yes"),
	))
	from := m
	from.From.After, from.To.After = true, false
	c, _ := batch.Encode([]api.Op{from, from, m})
	if !bytes.Contains(c, []byte{0, 2, 1, 2, 1, 3, 0}) { // From's: no false, two true, one false; To's: two false, one true; no Key
		t.Errorf("Encode of truths: %v", c)
	}
}

// E1, E2: operations of each kind, alone, two alike, and mixed in any order.
func TestEachKind(t *testing.T) {
	for i, o := range some() {
		checkThere(t, []api.Op{o}, bytesOf([]api.Op{o}))
		checkThere(t, []api.Op{o, o}, bytesOf([]api.Op{o, o}))
		for j, p := range some() {
			checkThere(t, []api.Op{o, p, o}, bytesOf([]api.Op{o, p, o}))
			l := some()
			l[i], l[j] = l[j], l[i]
			checkThere(t, l, bytesOf(l))
		}
	}
}

// E1: two lists of the same operations in another order have other bytes: the order in which they stand counts.
func TestOrder(t *testing.T) {
	l := some()
	slices.Reverse(l)
	b, _ := batch.Encode(some())
	c, _ := batch.Encode(l)
	if bytes.Equal(b, c) {
		t.Error("the order does not count")
	}
}

// E1, E2: no operations, 1, MaxBatch and more.
func TestHowMany(t *testing.T) {
	checkThere(t, nil, []byte{0})
	checkThere(t, []api.Op{}, []byte{0})
	checkThere(t, []api.Op{first()}, slices.Concat(
		[]byte{1, 1, 2}, bytes.Repeat([]byte{1, 0}, 9), []byte{1, 2, 1, 0, 1, 0, 1, 4, 1, 194, 1}, bytes.Repeat([]byte{1, 0}, 6), []byte{1, 1}, bytes.Repeat([]byte{1, 0}, 3),
	))
	for _, n := range []int{2, 127, 128, api.MaxBatch - 1, api.MaxBatch} {
		checkThere(t, many(n), bytesOf(many(n)))
	}
	b, _ := batch.Encode(many(api.MaxBatch))
	if b[0] != 200 || b[1] != 1 {
		t.Errorf("Encode of 200 begins with %v", b[:2])
	}
	for _, n := range []int{api.MaxBatch + 1, api.MaxBatch + 2, 256, 1000, 1 << 16} {
		checkRefused(t, many(n), api.ErrArg)
		checkNone(t, bytesOf(many(n)))
	}
}

// E1: one of them is not right, at each place; in a list that is too long that one is told.
func TestNotRight(t *testing.T) {
	wrong := []api.Op{{}, {ID: at(1, 0), Kind: api.Insert, Side: api.Right, Ch: 127}}
	for _, c := range []func(*api.Op){
		func(o *api.Op) { o.ID.N = api.MaxCounter + 1 },
		func(o *api.Op) { o.ID.R = 8 },
		func(o *api.Op) { o.ID.R = -1 },
		func(o *api.Op) { o.ID.N = 8 }, // no later than what it leans on
		func(o *api.Op) { o.Deps[4] = -1 },
		func(o *api.Op) { o.Kind = 6 },
		func(o *api.Op) { o.Ch = -1 },
		func(o *api.Op) { o.Name += "A" },
		func(o *api.Op) { o.Value += "\n" },
		func(o *api.Op) { o.Key += "0" },
	} {
		for _, o := range some() {
			c(&o)
			wrong = append(wrong, o)
		}
	}
	for _, o := range wrong {
		checkRefused(t, []api.Op{o}, api.ErrOp)
		for _, n := range []int{3, 50, api.MaxBatch} {
			for _, i := range []int{0, n / 2, n - 1} {
				l := many(n)
				l[i] = o
				checkRefused(t, l, api.ErrOp)
				checkNone(t, bytesOf(l))
			}
		}
		for _, i := range []int{0, 100, api.MaxBatch} {
			l := many(api.MaxBatch + 1)
			l[i] = o
			checkRefused(t, l, api.ErrArg)
		}
	}
	checkRefused(t, make([]api.Op, api.MaxBatch), api.ErrOp)
	checkRefused(t, make([]api.Op, api.MaxBatch+1), api.ErrArg)
}

// E1, E2: texts of no bytes, of few, and of as many as may be.
func TestTexts(t *testing.T) {
	var l []api.Op
	for _, key := range []string{"1", "z", "0z", strings.Repeat("0", 63) + "1", strings.Repeat("z", 64), strings.Repeat("z", 63)} {
		o := moving()
		o.Key = key
		l = append(l, o)
	}
	for _, value := range []string{"", " ", "~", strings.Repeat("~", 16), strings.Repeat(" ", 15), "\"\\'"} {
		for _, name := range []string{"a", "z", "abcdefgh", "abcdefg"} {
			o, p := setting(), marking()
			o.Name, o.Value, p.Name, p.Value = name, value, name, value
			l = append(l, o, p)
		}
	}
	for _, o := range l {
		checkThere(t, []api.Op{o}, bytesOf([]api.Op{o}))
	}
	checkThere(t, l, bytesOf(l))
	longest := slices.Repeat([]api.Op{l[4]}, api.MaxBatch)
	checkThere(t, longest, bytesOf(longest))
}

// E1, E2: the least and the greatest counters, Deps that rise and fall.
func TestCounters(t *testing.T) {
	last := inserting()
	last.ID = at(api.MaxCounter, 7)
	for r := range last.Deps {
		last.Deps[r] = api.MaxCounter - 1
	}
	last.Ref = at(api.MaxCounter-1, 7)
	least := api.Op{ID: at(2, 0), Deps: api.Vector{1, 1, 1, 1, 1, 1, 1, 1}, Kind: api.Delete, Ref: at(1, 7)}
	checkThere(t, []api.Op{last}, bytesOf([]api.Op{last}))
	for _, l := range [][]api.Op{{first(), last}, {last, first()}, {first(), last, first(), last, last}, {least, last, least, first()}} {
		checkThere(t, l, bytesOf(l))
	}
	var l []api.Op
	for i := range 100 {
		o := last
		o.ID.R = i % 8
		for r := range o.Deps {
			o.Deps[r] = (i + r) * (i + r) * 7919 % 1000
		}
		o.Deps[o.Ref.R] = api.MaxCounter - 1
		l = append(l, o)
	}
	checkThere(t, l, bytesOf(l))
}

// E2: right bytes that break off at each place, or that something stands behind.
func TestCutShort(t *testing.T) {
	for _, l := range [][]api.Op{nil, {first()}, {moving()}, {setting()}, {marking()}, some(), many(api.MaxBatch)} {
		b, e := batch.Encode(l)
		if e != api.OK {
			t.Fatal(e)
		}
		for i := range b {
			checkNone(t, b[:i])
		}
		for _, more := range [][]byte{{0}, {1}, {128}, {255}, b} {
			checkNone(t, slices.Concat(b, more))
		}
	}
}

// withPart are a list's bytes with one part put another way.
func withPart(l []api.Op, part int, b ...byte) []byte {
	parts := partsOf(l)
	parts[part] = b
	return bytes.Join(parts, nil)
}

// withNumber are bytes of one operation where a number is another one.
func withNumber(o api.Op, part int, n int) []byte {
	return withPart([]api.Op{o}, part, putSigned([]byte{1}, n)...)
}

// E2: how many there are is too great, or is put with more bytes than it needs.
func TestDecodeHowMany(t *testing.T) {
	l := []api.Op{first()}
	for _, n := range []uint64{0, 2, 3, 199, 200, 201, 1 << 16, 1 << 31, 1<<32 + 1, 1<<63 - 1, 1 << 63, 1<<63 + 1, math.MaxUint64} {
		checkNone(t, withPart(l, partN, binary.AppendUvarint(nil, n)...))
		if n > 0 {
			checkNone(t, binary.AppendUvarint(nil, n))
		}
	}
	checkNone(t, nil)
	checkNone(t, []byte{})
	checkNone(t, withPart(l, partN))
	checkNone(t, withPart(l, partN, 129, 0))
	checkNone(t, withPart(nil, partN, 128, 0))
	checkNone(t, withPart(l, partN, 129, 128, 0))
	checkNone(t, withPart(l, partN, 129, 128, 128, 128, 128, 128, 128, 128, 128, 2)) // 2^64 + 1
	// of MaxBatch and one more there are enough bytes
	checkNone(t, withPart(many(api.MaxBatch), partN, 201, 1))
	checkNone(t, withPart(many(api.MaxBatch+1), partN, 200, 1))
}

// E2: a column that is put another way than Runs, Deltas or Bools would: with more bytes than needed, too few or too many
// values, runs of none, runs that are not the longest.
func TestDecodeColumns(t *testing.T) {
	l := []api.Op{marking(), marking()}
	for part, whole := range partsOf(l) {
		if part == partN || part == partKeys || part == partNames || part == partValues {
			continue
		}
		checkNone(t, withPart(l, part))
		for i := range whole {
			if whole[i] < 128 {
				checkNone(t, withPart(l, part, slices.Concat(whole[:i], []byte{whole[i] + 128, 0}, whole[i+1:])...))
			}
		}
		if part == partFromAfter || part == partToAfter {
			continue
		}
		_, k := binary.Uvarint(whole)
		value := whole[k:]
		if whole[0] == 1 { // differences: the value, and 0
			value = whole[1 : len(whole)-2]
			checkNone(t, withPart(l, part, slices.Concat([]byte{1}, value)...))
			checkNone(t, withPart(l, part, slices.Concat([]byte{1}, value, []byte{2, 0})...))
			checkNone(t, withPart(l, part, slices.Concat([]byte{1}, value, []byte{1, 0, 1, 0})...))
			continue
		}
		for _, runs := range [][]byte{{1}, {3}, {0, 0, 2}, {130, 0}} {
			checkNone(t, withPart(l, part, slices.Concat(runs, value)...))
		}
		checkNone(t, withPart(l, part, slices.Concat([]byte{1}, value, []byte{1}, value)...))
		checkNone(t, withPart(l, part, slices.Concat([]byte{2}, value, []byte{1}, value)...))
		checkNone(t, withPart(l, part, slices.Concat([]byte{0}, value, []byte{2}, value)...))
		checkNone(t, withPart(l, part, slices.Concat([]byte{2}, value, []byte{0}, value)...))
	}
	for _, b := range [][]byte{{}, {1}, {3}, {1, 0, 1}, {0, 0, 2}, {0, 1, 0, 1}, {2, 0}, {0, 3}, {130, 0}, {1, 2}, {2, 2}} {
		checkNone(t, withPart(l, partFromAfter, b...))
		checkNone(t, withPart(l, partToAfter, b...))
	}
	for _, b := range [][]byte{{0, 2}, {1, 1}, {0, 1, 1}, {2}} {
		for _, part := range []int{partFromAfter, partToAfter} {
			if got, e := batch.Decode(withPart(l, part, b...)); e != api.OK || len(got) != 2 {
				t.Errorf("Decode of truths %v: %s, %v", b, brief(got), e)
			}
		}
	}
}

// E2: a number that is none of its field: a Kind, a Side, a counter, a replica, a character.
func TestDecodeNumbers(t *testing.T) {
	wide := []int{-1, math.MinInt, math.MaxInt, 1 << 32, 1<<32 + 1, 1<<32 + 2, -1 << 32}
	for part, l := range map[int][]int{
		partKind:   {0, 6, 7, 256 + 1},
		partSide:   {0, 3, 4, 256 + 1},
		partCh:     {1, 31, 127, 128, 256 + 'a'},
		partIDN:    {0, 1, 8, api.MaxCounter + 1},
		partIDR:    {8, 9, 256},
		partRefN:   {0, 5, api.MaxCounter + 1},
		partRefR:   {1, 8, 256},
		partUnderN: {1},
		partUnderR: {1},
		partFromN:  {1},
		partFromR:  {1},
		partToN:    {1},
		partToR:    {1},
		partDeps:   {3, 9, 10, api.MaxCounter, api.MaxCounter + 1},
	} {
		for _, n := range append(l, wide...) {
			checkNone(t, withNumber(inserting(), part, n))
		}
	}
	for r := range api.MaxReplicas {
		for _, n := range append(wide, 9, api.MaxCounter, api.MaxCounter+1) {
			checkNone(t, withNumber(inserting(), partDeps+r, n))
		}
	}
	// what may be there is
	for part, n := range map[int]int{partSide: 2, partCh: 0, partIDN: api.MaxCounter, partIDR: 7, partRefN: 1, partRefR: 3, partDeps: 8} {
		if l, e := batch.Decode(withNumber(inserting(), part, n)); e != api.OK || len(l) != 1 {
			t.Errorf("Decode, where part %d is %d: %s, %v", part, n, brief(l), e)
		}
	}
}

// E2: differences that go round: the numbers between are too great, but the last ones are not.
func TestDecodeDifferences(t *testing.T) {
	l := []api.Op{inserting(), inserting(), inserting()}
	for _, part := range []int{partIDN, partDeps, partRefN} {
		n := map[int]int{partIDN: 9, partDeps: 4, partRefN: 4}[part]
		b := putSigned([]byte{1}, n)
		b = putSigned(append(b, 1), math.MaxInt)
		b = putSigned(append(b, 1), -math.MaxInt)
		checkNone(t, withPart(l, part, b...))
		b = putSigned([]byte{1}, n)
		b = putSigned(append(b, 2), math.MinInt) // twice half of 2^64
		checkNone(t, withPart(l, part, b...))
	}
}

// E2: lengths of texts that are below 0, more than the bytes that follow, or whose sum is too great.
func TestDecodeLengths(t *testing.T) {
	for part, o := range map[int]api.Op{partKeyLengths: moving(), partNameLengths: setting(), partValueLengths: marking()} {
		stood := len(partsOf([]api.Op{o})[part+1])
		behind := len(bytes.Join(partsOf([]api.Op{o})[part+1:], nil))
		for _, n := range []int{0, stood - 1, stood + 1, behind, behind + 1, 64, 65, 1 << 16, 1<<32 + stood, math.MaxInt, math.MaxInt - 1, -1, -stood, math.MinInt} {
			if n == stood {
				continue
			}
			checkNone(t, withNumber(o, part, n))
		}
		two := []api.Op{o, o}
		for _, n := range []int{1 << 62, math.MaxInt, math.MinInt, math.MinInt + stood, 1<<63 - 1 - stood} {
			checkNone(t, withPart(two, part, putSigned([]byte{2}, n)...))                                                     // their sum goes round
			checkNone(t, withPart(two, part, putSigned(append(putSigned([]byte{1}, n), 1), 2*stood-n)...))                    // or is just right
			checkNone(t, withPart(two, part, putSigned(append(putSigned([]byte{1}, 2*stood+1), 1), -1)...))                   // so is this
			checkNone(t, withPart(two, part, slices.Concat(putSigned([]byte{1}, stood), putSigned([]byte{1}, n))...))         // the last one alone
			checkNone(t, withPart([]api.Op{o}, part, slices.Concat(putSigned([]byte{1}, n), putSigned([]byte{1}, stood))...)) // one too many
			checkNone(t, withPart(two, part+1, bytes.Join([][]byte{partsOf(two)[part+1], make([]byte, stood)}, nil)...))      // more bytes than the lengths tell
			checkNone(t, withPart(two, part+1, partsOf(two)[part+1][:stood]...))                                              // fewer
		}
	}
	// bytes that move from one text to the next one
	o, p := setting(), setting()
	o.Name, p.Name = "kin", "dkind"
	l := []api.Op{setting(), setting()}
	b := withPart(l, partNameLengths, slices.Concat(putSigned([]byte{1}, 3), putSigned([]byte{1}, 5))...)
	checkThere(t, []api.Op{o, p}, b)
}

// E2: bytes of operations that are not right, at each place: put well, but none that Encode gives.
func TestDecodeNotRight(t *testing.T) {
	l := some()
	for i := range l {
		for _, change := range []func(*api.Op){
			func(o *api.Op) { o.Value += "\x00" },
			func(o *api.Op) { o.Value = strings.Repeat("v", 17) },
			func(o *api.Op) { o.Name += "Z" },
			func(o *api.Op) { o.Name = "abcdefghi" },
			func(o *api.Op) { o.Key += "0" },
			func(o *api.Op) { o.Key = strings.Repeat("k", 65) },
			func(o *api.Op) { o.Kind = o.Kind%5 + 1 },
			func(o *api.Op) { o.From.After, o.To.After = true, true; o.From.ID.N = 7 },
			func(o *api.Op) { o.Under = at(1, 3); o.Ref = at(1, 3) },
			func(o *api.Op) { o.Deps = api.Vector{9} },
			func(o *api.Op) { *o = api.Op{} },
		} {
			wrong := slices.Clone(l)
			change(&wrong[i])
			checkNone(t, bytesOf(wrong))
			checkRefused(t, wrong, api.ErrOp)
		}
	}
}

// Rule 4: what is handed in stays, and what lies behind it is not looked at; what is answered is new memory.
func TestMemory(t *testing.T) {
	whole := some()
	stood := slices.Clone(whole)
	for n := range len(whole) + 1 {
		l := whole[:n]
		b, _ := batch.Encode(l)
		again, _ := batch.Encode(l)
		clear(b[:cap(b)])
		if !slices.Equal(whole, stood) || !bytes.Equal(again, bytesOf(stood[:n])) {
			t.Errorf("Encode writes into its list, or two answers share memory, at %d", n)
		}
		code := slices.Concat(again, []byte{7, 7, 7})
		kept := slices.Clone(code)
		got, e := batch.Decode(code[:len(again)])
		other, _ := batch.Decode(code[:len(again)])
		if e != api.OK || !bytes.Equal(code, kept) {
			t.Errorf("Decode writes into its bytes, or looks behind them, at %d: %v", n, e)
		}
		clear(code)
		if !slices.Equal(got, stood[:n]) {
			t.Errorf("what is decoded changes with the bytes, at %d: %s", n, brief(got))
		}
		clear(got[:cap(got)])
		if !slices.Equal(other, stood[:n]) {
			t.Errorf("two answers share memory, at %d", n)
		}
		cut := slices.Concat(again, []byte{0})
		checkNone(t, cut)
	}
	b, _ := batch.Encode(whole)
	clear(whole)
	if !bytes.Equal(b, bytesOf(stood)) {
		t.Error("what is encoded changes with the list")
	}
}

// P1, P2: at whatever arguments each call ends, none panics, and asked again it answers the same.
func TestSameAgain(t *testing.T) {
	extreme := api.Op{ID: at(math.MinInt, math.MaxInt), Kind: math.MinInt, Side: math.MaxInt, Ch: math.MinInt, Key: strings.Repeat("k", 1<<16), Value: "\xff"}
	for r := range extreme.Deps {
		extreme.Deps[r] = math.MinInt
	}
	for _, l := range [][]api.Op{nil, some(), many(api.MaxBatch), {extreme}, slices.Repeat([]api.Op{extreme}, 300)} {
		b, e := batch.Encode(l)
		c, f := batch.Encode(l)
		if e != f || !bytes.Equal(b, c) {
			t.Errorf("Encode of %s: %v, %v, and then %v, %v", brief(l), b, e, c, f)
		}
		for i := range b {
			got, e := batch.Decode(b[i:])
			again, f := batch.Decode(b[i:])
			if e != f || !slices.Equal(got, again) {
				t.Errorf("Decode of %v: the answers differ", b[i:])
			}
		}
	}
	checkNone(t, bytesOf([]api.Op{extreme}))
	checkNone(t, bytes.Repeat([]byte{255}, 1<<16))
	checkNone(t, make([]byte, 1<<16))
	checkNone(t, bytes.Repeat([]byte{1}, 1<<16))
}
