package column_test

import (
	"bytes"
	"encoding/binary"
	"fmt"
	"math"
	"math/big"
	"slices"
	"testing"

	"stemma/api"
	"stemma/column"
)

// wantRuns is what C1 says of Runs: each run's end is looked for by itself.
func wantRuns(l []int) []byte {
	var b []byte
	for len(l) > 0 {
		end := slices.IndexFunc(l, func(value int) bool { return value != l[0] })
		if end < 0 {
			end = len(l)
		}
		b = binary.AppendUvarint(b, uint64(end))
		b = binary.AppendVarint(b, int64(l[0]))
		l = l[end:]
	}
	return b
}

// wantDeltas is what C1 says of Deltas, reckoned with numbers of any size.
func wantDeltas(l []int) []byte {
	whole, half := new(big.Int).Lsh(big.NewInt(1), 64), new(big.Int).Lsh(big.NewInt(1), 63)
	var differences []int
	for i, value := range l {
		d := big.NewInt(int64(value))
		if i > 0 {
			d.Sub(d, big.NewInt(int64(l[i-1])))
		}
		d.Mod(d, whole)
		if d.Cmp(half) >= 0 {
			d.Sub(d, whole)
		}
		differences = append(differences, int(d.Int64()))
	}
	return wantRuns(differences)
}

// wantBools is what C1 says of Bools.
func wantBools(l []bool) []byte {
	var b []byte
	for value := false; len(l) > 0; value = !value {
		end := slices.Index(l, !value)
		if end < 0 {
			end = len(l)
		}
		b = binary.AppendUvarint(b, uint64(end))
		l = l[end:]
	}
	return b
}

// kind is one of the three: its calls, what C1 says, and a list read from bytes in whatever form they are.
type kind[T comparable] struct {
	name string
	put  func([]T) []byte
	take func([]byte, int) ([]T, int, api.Errno)
	want func([]T) []byte
	read func(b []byte, n int) []T
}

var (
	runs   = kind[int]{"Runs", column.Runs, column.TakeRuns, wantRuns, readRuns}
	deltas = kind[int]{"Deltas", column.Deltas, column.TakeDeltas, wantDeltas, readDeltas}
	truths = kind[bool]{"Bools", column.Bools, column.TakeBools, wantBools, readBools}
)

// readRuns reads n values of runs, however they are put; fewer, if there are no more.
func readRuns(b []byte, n int) []int {
	var l []int
	for len(l) < n && len(b) > 0 {
		count, k := binary.Uvarint(b)
		value, more := binary.Varint(b[max(k, 0):])
		if k <= 0 || more <= 0 {
			break
		}
		for range min(count, uint64(n-len(l))) {
			l = append(l, int(value))
		}
		b = b[k+more:]
	}
	return l
}

func readDeltas(b []byte, n int) []int {
	l := readRuns(b, n)
	for i := 1; i < len(l); i++ {
		l[i] += l[i-1]
	}
	return l
}

func readBools(b []byte, n int) []bool {
	var l []bool
	for value := false; len(l) < n && len(b) > 0; value = !value {
		count, k := binary.Uvarint(b)
		if k <= 0 {
			break
		}
		for range min(count, uint64(n-len(l))) {
			l = append(l, value)
		}
		b = b[k:]
	}
	return l
}

// find is what C2 says: of n values there is but one list that the bytes can be those of; it is, if they begin with what
// C1 says of it.
func (c kind[T]) find(b []byte, n int) ([]T, int, api.Errno) {
	if n < 0 || n > 65536 {
		return nil, 0, api.ErrArg
	}
	l := c.read(b, n)
	if want := c.want(l); len(l) == n && bytes.HasPrefix(b, want) {
		return l, len(want), api.OK
	}
	return nil, 0, api.ErrColumn
}

// checkTake holds one take against find, and what was taken against its bytes (P4.2).
func (c kind[T]) checkTake(t *testing.T, b []byte, n int) {
	t.Helper()
	wantL, wantK, wantErr := c.find(b, n)
	kept := slices.Clone(b)
	l, k, err := c.take(b, n)
	if !slices.Equal(l, wantL) || k != wantK || err != wantErr {
		t.Fatalf("Take%s(%v, %d): %v, %d, %v; not %v, %d, %v", c.name, b, n, l, k, err, wantL, wantK, wantErr)
	}
	if !bytes.Equal(b, kept) {
		t.Fatalf("Take%s wrote into %v: %v", c.name, kept, b)
	}
	if err == api.OK && !bytes.Equal(c.put(l), b[:k]) {
		t.Fatalf("Take%s(%v, %d) took %v, of which %s is %v", c.name, b, n, l, c.name, c.put(l))
	}
}

// checkPut holds what is put of a list against C1, and takes it again, with anything behind, and broken off (P4.2).
func (c kind[T]) checkPut(t *testing.T, l []T) {
	t.Helper()
	kept := slices.Clone(l)
	b := c.put(l)
	if want := c.want(l); !bytes.Equal(b, want) {
		t.Fatalf("%s(%v): %v, not %v", c.name, l, b, want)
	}
	if !slices.Equal(l, kept) {
		t.Fatalf("%s wrote into %v: %v", c.name, kept, l)
	}
	if len(l) > 65536 {
		return
	}
	for _, behind := range [][]byte{nil, {0}, {1}, {2, 10}, {128}, {255, 255}} {
		got, k, err := c.take(slices.Concat(b, behind), len(l))
		if !slices.Equal(got, l) || k != len(b) || err != api.OK {
			t.Fatalf("Take%s of %s(%v) and %v: %v, %d, %v", c.name, c.name, l, behind, got, k, err)
		}
	}
	for k := range min(len(b), 40) {
		if got, took, err := c.take(b[:k], len(l)); len(got) != 0 || took != 0 || err != api.ErrColumn {
			t.Fatalf("Take%s of the first %d bytes of %s(%v): %v, %d, %v", c.name, k, c.name, l, got, took, err)
		}
	}
}

// wanted is a list, and its bytes by hand.
type wanted[T any] struct {
	l     []T
	bytes []byte
}

func (c kind[T]) checkPuts(t *testing.T, list []wanted[T]) {
	t.Helper()
	for _, w := range list {
		if b := c.put(w.l); !bytes.Equal(b, w.bytes) {
			t.Errorf("%s of %d values: %v, not %v", c.name, len(w.l), b, w.bytes)
		}
	}
}

// took is a take's arguments, and its answer by hand.
type took[T any] struct {
	b    []byte
	n    int
	l    []T
	k    int
	err  api.Errno
	what string
}

func (c kind[T]) checkTakes(t *testing.T, list []took[T]) {
	t.Helper()
	for _, w := range list {
		if l, k, err := c.take(w.b, w.n); !slices.Equal(l, w.l) || k != w.k || err != w.err {
			t.Errorf("Take%s, %s: %v, %d, %v; not %v, %d, %v", c.name, w.what, l, k, err, w.l, w.k, w.err)
		}
	}
}

// tooGreat is 2^64, in the form of a number.
var tooGreat = []byte{128, 128, 128, 128, 128, 128, 128, 128, 128, 2}

// row is a number some times, one behind the other.
func row[T any](n int, value T) []T { return slices.Repeat([]T{value}, n) }

// C1 (P4.1): Runs, by hand.
func TestRuns(t *testing.T) {
	runs.checkPuts(t, []wanted[int]{
		{nil, nil},
		{[]int{}, nil},
		{[]int{0}, []byte{1, 0}},
		{[]int{5}, []byte{1, 10}},
		{[]int{5, 5, 7}, []byte{2, 10, 1, 14}},
		{[]int{7, 5, 5}, []byte{1, 14, 2, 10}},
		{[]int{5, 7, 5}, []byte{1, 10, 1, 14, 1, 10}},
		{[]int{-1, -1, -1, -1}, []byte{4, 1}},
		{[]int{1, -1}, []byte{1, 2, 1, 1}},
		{[]int{0, 0, -64, 64, 64}, []byte{2, 0, 1, 127, 2, 128, 1}},
		{row(127, 5), []byte{127, 10}},
		{row(128, 5), []byte{128, 1, 10}},
		{row(300, 150), []byte{172, 2, 172, 2}},
		{row(65536, 5), []byte{128, 128, 4, 10}},
		{row(65537, 5), []byte{129, 128, 4, 10}}, // MaxRun binds those that take alone
		{[]int{math.MaxInt}, []byte{1, 254, 255, 255, 255, 255, 255, 255, 255, 255, 1}},
		{[]int{math.MinInt, math.MinInt}, []byte{2, 255, 255, 255, 255, 255, 255, 255, 255, 255, 1}},
	})
}

// C1 (P4.1): Deltas, by hand; differences that wrap among them.
func TestDeltas(t *testing.T) {
	deltas.checkPuts(t, []wanted[int]{
		{nil, nil},
		{[]int{}, nil},
		{[]int{0}, []byte{1, 0}},
		{[]int{5}, []byte{1, 10}},
		{[]int{-5}, []byte{1, 9}},
		{[]int{5, 6, 7}, []byte{1, 10, 2, 2}},
		{[]int{1, 2, 3}, []byte{3, 2}},
		{[]int{7, 7, 7}, []byte{1, 14, 2, 0}},
		{[]int{0, 0, 0}, []byte{3, 0}},
		{[]int{7, 6, 5, 9}, []byte{1, 14, 2, 1, 1, 8}},
		{[]int{-1, 1}, []byte{1, 1, 1, 4}},
		{[]int{math.MaxInt, math.MinInt}, []byte{1, 254, 255, 255, 255, 255, 255, 255, 255, 255, 1, 1, 2}},
		{[]int{math.MinInt, math.MaxInt}, []byte{1, 255, 255, 255, 255, 255, 255, 255, 255, 255, 1, 1, 1}},
		{[]int{math.MinInt, 0}, []byte{2, 255, 255, 255, 255, 255, 255, 255, 255, 255, 1}},
		{[]int{-1, math.MaxInt}, []byte{1, 1, 1, 255, 255, 255, 255, 255, 255, 255, 255, 255, 1}},
		{[]int{1, math.MinInt}, []byte{1, 2, 1, 254, 255, 255, 255, 255, 255, 255, 255, 255, 1}},
	})
}

// C1 (P4.1): Bools, by hand; those that begin with true among them.
func TestBools(t *testing.T) {
	truths.checkPuts(t, []wanted[bool]{
		{nil, nil},
		{[]bool{}, nil},
		{[]bool{false}, []byte{1}},
		{[]bool{true}, []byte{0, 1}},
		{[]bool{false, false}, []byte{2}},
		{[]bool{true, true}, []byte{0, 2}},
		{[]bool{true, true, false}, []byte{0, 2, 1}},
		{[]bool{false, true, true, false, true}, []byte{1, 2, 1, 1}},
		{row(128, false), []byte{128, 1}},
		{row(300, true), []byte{0, 172, 2}},
		{row(65536, true), []byte{0, 128, 128, 4}},
		{append(row(65536, false), true), []byte{128, 128, 4, 1}},
	})
}

// C2 (P4.1): TakeRuns, by hand: with bytes behind the column, and what is no column.
func TestTakeRuns(t *testing.T) {
	runs.checkTakes(t, []took[int]{
		{nil, 0, nil, 0, api.OK, "no values of nil"},
		{[]byte{2, 10}, 0, nil, 0, api.OK, "no values of some bytes"},
		{tooGreat, 0, nil, 0, api.OK, "no values of what is no number"},
		{[]byte{0, 10}, 0, nil, 0, api.OK, "no values, and a run of none behind"},
		{[]byte{2, 10}, 2, []int{5, 5}, 2, api.OK, "one run"},
		{[]byte{2, 10, 1, 14}, 3, []int{5, 5, 7}, 4, api.OK, "two runs"},
		{[]byte{2, 10, 1, 14}, 2, []int{5, 5}, 2, api.OK, "one run, and another one behind"},
		{[]byte{2, 10, 1, 10}, 2, []int{5, 5}, 2, api.OK, "one run, and one like it behind"},
		{[]byte{2, 10, 0, 14}, 2, []int{5, 5}, 2, api.OK, "one run, and one of no values behind"},
		{[]byte{1, 10, 1, 14, 1, 10}, 3, []int{5, 7, 5}, 6, api.OK, "two alike that are not beside one another"},
		{[]byte{1, 255, 255, 255, 255, 255, 255, 255, 255, 255, 1, 9}, 1, []int{math.MinInt}, 11, api.OK, "the least value"},

		{nil, -1, nil, 0, api.ErrArg, "-1 values of nil"},
		{[]byte{2, 10}, -1, nil, 0, api.ErrArg, "-1 values"},
		{[]byte{2, 10}, math.MinInt, nil, 0, api.ErrArg, "the least count"},
		{nil, 65537, nil, 0, api.ErrArg, "MaxRun + 1 values of nil"},
		{[]byte{129, 128, 4, 10}, 65537, nil, 0, api.ErrArg, "MaxRun + 1 values that are there"},
		{[]byte{2, 10}, math.MaxInt, nil, 0, api.ErrArg, "the greatest count"},

		{nil, 1, nil, 0, api.ErrColumn, "one value of nil"},
		{[]byte{}, 1, nil, 0, api.ErrColumn, "one value of no bytes"},
		{[]byte{1}, 1, nil, 0, api.ErrColumn, "it breaks off ahead of a value"},
		{[]byte{128}, 1, nil, 0, api.ErrColumn, "it breaks off within a count"},
		{[]byte{1, 128}, 1, nil, 0, api.ErrColumn, "it breaks off within a value"},
		{[]byte{2, 10}, 3, nil, 0, api.ErrColumn, "it breaks off ahead of a run"},
		{[]byte{2, 10, 1}, 3, nil, 0, api.ErrColumn, "it breaks off ahead of the second value"},
		{[]byte{1, 10, 1, 10}, 2, nil, 0, api.ErrColumn, "two runs alike"},
		{[]byte{1, 14, 1, 10, 1, 10}, 3, nil, 0, api.ErrColumn, "two runs alike behind another one"},
		{[]byte{1, 0, 1, 0}, 2, nil, 0, api.ErrColumn, "two runs of 0"},
		{[]byte{0, 10, 2, 2}, 2, nil, 0, api.ErrColumn, "no values first"},
		{[]byte{1, 10, 0, 14, 1, 10}, 2, nil, 0, api.ErrColumn, "no values between two"},
		{[]byte{1, 10, 0, 14, 1, 16}, 2, nil, 0, api.ErrColumn, "no values between two that differ"},
		{[]byte{3, 10}, 2, nil, 0, api.ErrColumn, "longer than what is asked"},
		{[]byte{1, 10, 2, 14}, 2, nil, 0, api.ErrColumn, "longer than what is left"},
		{[]byte{129, 128, 4, 10}, 65536, nil, 0, api.ErrColumn, "longer than MaxRun"},
		{[]byte{255, 255, 255, 255, 255, 255, 255, 255, 255, 1, 10}, 1, nil, 0, api.ErrColumn, "a count of 2^64 - 1"},
		{[]byte{128, 128, 128, 128, 128, 128, 128, 128, 128, 1, 10}, 65536, nil, 0, api.ErrColumn, "a count of 2^63"},
		{[]byte{255, 255, 255, 255, 255, 255, 255, 255, 255, 1, 10, 1, 14}, 1, nil, 0, api.ErrColumn, "a count of 2^64 - 1, and a run behind"},
		{[]byte{128, 128, 128, 128, 128, 128, 128, 128, 128, 1, 10, 1, 14}, 1, nil, 0, api.ErrColumn, "a count of 2^63, and a run behind"},
		{[]byte{129, 128, 128, 128, 16, 10}, 1, nil, 0, api.ErrColumn, "a count of 2^32 + 1"},
		{[]byte{129, 0, 10}, 1, nil, 0, api.ErrColumn, "a count not in its shortest form"},
		{[]byte{1, 138, 0}, 1, nil, 0, api.ErrColumn, "a value not in its shortest form"},
		{append(tooGreat, 10), 1, nil, 0, api.ErrColumn, "a count of 2^64"},
		{append([]byte{1}, tooGreat...), 1, nil, 0, api.ErrColumn, "a value of 2^64"},
	})
}

// C2 (P4.1): TakeDeltas, by hand.
func TestTakeDeltas(t *testing.T) {
	deltas.checkTakes(t, []took[int]{
		{nil, 0, nil, 0, api.OK, "no values of nil"},
		{[]byte{1, 10}, 0, nil, 0, api.OK, "no values of some bytes"},
		{[]byte{1, 10, 2, 2, 9}, 3, []int{5, 6, 7}, 4, api.OK, "three, and a byte behind"},
		{[]byte{3, 2}, 3, []int{1, 2, 3}, 2, api.OK, "one run"},
		{[]byte{4, 1, 1}, 4, []int{-1, -2, -3, -4}, 2, api.OK, "one run below 0"},
		{[]byte{1, 254, 255, 255, 255, 255, 255, 255, 255, 255, 1, 1, 2}, 2, []int{math.MaxInt, math.MinInt}, 13, api.OK, "it wraps"},
		{[]byte{1, 255, 255, 255, 255, 255, 255, 255, 255, 255, 1, 1, 1}, 2, []int{math.MinInt, math.MaxInt}, 13, api.OK, "it wraps back"},
		{[]byte{3, 255, 255, 255, 255, 255, 255, 255, 255, 255, 1}, 3, []int{math.MinInt, 0, math.MinInt}, 11, api.OK, "it wraps twice"},

		{nil, -1, nil, 0, api.ErrArg, "-1 values"},
		{[]byte{129, 128, 4, 10}, 65537, nil, 0, api.ErrArg, "MaxRun + 1 values that are there"},

		{nil, 1, nil, 0, api.ErrColumn, "one value of nil"},
		{[]byte{1, 10, 2}, 3, nil, 0, api.ErrColumn, "it breaks off"},
		{[]byte{1, 10, 2, 2}, 4, nil, 0, api.ErrColumn, "it breaks off ahead of a run"},
		{[]byte{1, 10, 1, 2, 1, 2}, 3, nil, 0, api.ErrColumn, "two differences alike in two runs"},
		{[]byte{1, 10, 0, 2, 1, 4}, 2, nil, 0, api.ErrColumn, "no differences"},
		{[]byte{1, 10, 3, 2}, 3, nil, 0, api.ErrColumn, "longer than what is left"},
		{[]byte{129, 0, 10}, 1, nil, 0, api.ErrColumn, "a count not in its shortest form"},
		{[]byte{1, 138, 0}, 1, nil, 0, api.ErrColumn, "a difference not in its shortest form"},
		{append([]byte{1}, tooGreat...), 1, nil, 0, api.ErrColumn, "a difference of 2^64"},
	})
}

// C2 (P4.1): TakeBools, by hand.
func TestTakeBools(t *testing.T) {
	truths.checkTakes(t, []took[bool]{
		{nil, 0, nil, 0, api.OK, "no values of nil"},
		{[]byte{0}, 0, nil, 0, api.OK, "no values: not even the first number"},
		{[]byte{0, 2, 1}, 3, []bool{true, true, false}, 3, api.OK, "it begins with true"},
		{[]byte{0, 2, 1}, 2, []bool{true, true}, 2, api.OK, "true, and a byte behind"},
		{[]byte{1, 0}, 1, []bool{false}, 1, api.OK, "false, and a 0 behind"},
		{[]byte{1, 1}, 1, []bool{false}, 1, api.OK, "false, and a 1 behind"},
		{[]byte{3, 128}, 3, []bool{false, false, false}, 1, api.OK, "one run, and what breaks off behind"},

		{nil, -1, nil, 0, api.ErrArg, "-1 values"},
		{[]byte{0, 1}, math.MinInt, nil, 0, api.ErrArg, "the least count"},
		{[]byte{129, 128, 4}, 65537, nil, 0, api.ErrArg, "MaxRun + 1 values that are there"},
		{[]byte{0, 129, 128, 4}, math.MaxInt, nil, 0, api.ErrArg, "the greatest count"},

		{nil, 1, nil, 0, api.ErrColumn, "one value of nil"},
		{[]byte{0}, 1, nil, 0, api.ErrColumn, "it breaks off behind a 0"},
		{[]byte{1}, 2, nil, 0, api.ErrColumn, "it breaks off ahead of a run"},
		{[]byte{0, 128}, 1, nil, 0, api.ErrColumn, "it breaks off within a number"},
		{[]byte{0, 0, 1}, 1, nil, 0, api.ErrColumn, "the second number is 0"},
		{[]byte{1, 0, 1}, 2, nil, 0, api.ErrColumn, "no true between two of false"},
		{[]byte{0, 1, 0, 1}, 2, nil, 0, api.ErrColumn, "no false between two of true"},
		{[]byte{2}, 1, nil, 0, api.ErrColumn, "longer than what is asked"},
		{[]byte{1, 2}, 2, nil, 0, api.ErrColumn, "longer than what is left"},
		{[]byte{129, 128, 4}, 65536, nil, 0, api.ErrColumn, "longer than MaxRun"},
		{[]byte{128, 0, 1}, 1, nil, 0, api.ErrColumn, "a 0 not in its shortest form"},
		{[]byte{0, 129, 0}, 1, nil, 0, api.ErrColumn, "a 1 not in its shortest form"},
		{[]byte{255, 255, 255, 255, 255, 255, 255, 255, 255, 1}, 1, nil, 0, api.ErrColumn, "2^64 - 1 of them"},
		{[]byte{255, 255, 255, 255, 255, 255, 255, 255, 255, 1, 1}, 1, nil, 0, api.ErrColumn, "2^64 - 1 of them, and a 1 behind"},
		{[]byte{128, 128, 128, 128, 128, 128, 128, 128, 128, 1, 1}, 1, nil, 0, api.ErrColumn, "2^63 of them, and a 1 behind"},
		{[]byte{129, 128, 128, 128, 16}, 1, nil, 0, api.ErrColumn, "2^32 + 1 of them"},
		{tooGreat, 1, nil, 0, api.ErrColumn, "2^64 of them"},
	})
}

// lists hands out all lists of so many values at most.
func lists[T any](values []T, most int, try func([]T)) {
	var further func(l []T)
	further = func(l []T) {
		try(l)
		if len(l) == most {
			return
		}
		for _, value := range values {
			further(append(l, value))
		}
	}
	further(nil)
}

// P4.1, P4.2: all lists of some values; those among them whose differences wrap.
func TestThereAndBack(t *testing.T) {
	values := []int{0, 1, -1, 64, math.MaxInt, math.MinInt}
	lists(values, 5, func(l []int) {
		runs.checkPut(t, l)
		deltas.checkPut(t, l)
	})
	lists([]bool{false, true}, 12, func(l []bool) { truths.checkPut(t, l) })
}

// P4.1, P4.2: lists about as long as MaxRun: of one run, of a run a value, and between.
func TestLong(t *testing.T) {
	for _, n := range []int{127, 128, 16383, 16384, 65535, 65536, 65537} {
		for _, length := range []int{1, 2, 300, n - 1, n} {
			numbers, bools := make([]int, n), make([]bool, n)
			for i := range n {
				numbers[i] = (i/length)*1103515245 - 20000
				bools[i] = i/length%2 == 1
			}
			runs.checkPut(t, numbers)
			deltas.checkPut(t, numbers)
			truths.checkPut(t, bools)
			bools[0] = true
			truths.checkPut(t, bools)
		}
	}
}

// P4.1, P4.2: whatever the bytes are: all of up to six that are edges, of each count.
func TestTakeAll(t *testing.T) {
	lists([]byte{0, 1, 2, 3, 128, 129}, 6, func(b []byte) {
		for n := -1; n <= 4; n++ {
			runs.checkTake(t, b, n)
			deltas.checkTake(t, b, n)
			truths.checkTake(t, b, n)
		}
	})
}

// C2 (P4.1): each count about the edges, of bytes that have as many values.
func TestCount(t *testing.T) {
	for _, n := range []int{math.MinInt, -65536, -1, 0, 1, 65535, 65536, 65537, 1 << 17, 1 << 32, 1<<32 + 1, math.MaxInt} {
		b := binary.AppendUvarint(nil, uint64(n))
		runs.checkTake(t, append(b, 0), n)
		deltas.checkTake(t, append(b, 0), n)
		truths.checkTake(t, b, n)
	}
}

// memory holds that one kind's calls share nothing and stay within a list's length (rule 4).
func (c kind[T]) memory(t *testing.T, whole []T) {
	some := whole[:len(whole)-1] // the last one lies behind its length
	b, again := c.put(some), c.put(some)
	clear(b[:cap(b)])
	if want := c.want(some); !bytes.Equal(again, want) || !bytes.Equal(c.put(some), want) {
		t.Errorf("what %s answered shares memory", c.name)
	}
	b = c.put(whole)
	kept := slices.Clone(b)
	if l, k, err := c.take(b[:len(b)-1], len(whole)); len(l) != 0 || k != 0 || err != api.ErrColumn {
		t.Errorf("Take%s read behind the length: %v, %d, %v", c.name, l, k, err)
	}
	l, _, _ := c.take(b, len(whole))
	clear(l[:cap(l)])
	if l, _, _ = c.take(b, len(whole)); !slices.Equal(l, whole) || !bytes.Equal(b, kept) {
		t.Errorf("what Take%s answered shares memory", c.name)
	}
	clear(b)
	if !slices.Equal(l, whole) {
		t.Errorf("Take%s kept what was handed in", c.name)
	}
}

// Rule 4: what is answered is new memory; nothing is written into, nor read behind a list's length.
func TestMemory(t *testing.T) {
	runs.memory(t, []int{5, 5, 7, 7})
	deltas.memory(t, []int{5, 6, 7, 8})
	truths.memory(t, []bool{true, true, false, false})

	whole := []int{5, 6, 7, 7}
	column.Runs(whole[:3])
	column.Deltas(whole[:3])
	if !slices.Equal(whole, []int{5, 6, 7, 7}) {
		t.Errorf("what is handed in was written: %v", whole)
	}
}

// P1, P2: each call ends, and answers the same again, whatever was asked between.
func TestSameAgain(t *testing.T) {
	first := map[string]string{}
	for range 2 {
		lists([]byte{0, 1, 2, 128, 255}, 4, func(b []byte) {
			for n := range 4 {
				told := tell(column.TakeRuns(b, n)) + tell(column.TakeDeltas(b, n)) + tell(column.TakeBools(b, n))
				asked := fmt.Sprint(b, n)
				if before, ok := first[asked]; ok && before != told {
					t.Errorf("of %s: %s, then %s", asked, before, told)
				}
				first[asked] = told
			}
		})
	}
}

func tell[T any](l []T, k int, err api.Errno) string { return fmt.Sprint(l, k, err, ";") }

// P4.1, P4.2: whatever the bytes and the count are.
func FuzzTake(f *testing.F) {
	f.Add([]byte{2, 10, 1, 14, 9}, 3)
	f.Add([]byte{1, 10, 1, 10}, 2)
	f.Add([]byte{0, 2, 1}, 3)
	f.Add([]byte{129, 0, 10}, 1)
	f.Add([]byte{128, 128, 4, 10}, 65536)
	f.Add(append([]byte{1}, tooGreat...), 1)
	f.Fuzz(func(t *testing.T, b []byte, n int) {
		runs.checkTake(t, b, n)
		deltas.checkTake(t, b, n)
		truths.checkTake(t, b, n)
	})
}

// P4.1, P4.2: whatever the values are, each of eight bytes, its run as long as the ninth one says.
func FuzzList(f *testing.F) {
	f.Add([]byte{0, 0, 0, 0, 0, 0, 0, 128, 2, 255, 255, 255, 255, 255, 255, 255, 127, 3})
	f.Fuzz(func(t *testing.T, b []byte) {
		var numbers []int
		var bools []bool
		for ; len(b) >= 9 && len(numbers) < 1000; b = b[9:] {
			value := int(binary.LittleEndian.Uint64(b))
			numbers = append(numbers, row(int(b[8]), value)...)
			bools = append(bools, row(int(b[8]), value%2 == 0)...)
		}
		runs.checkPut(t, numbers)
		deltas.checkPut(t, numbers)
		truths.checkPut(t, bools)
	})
}
