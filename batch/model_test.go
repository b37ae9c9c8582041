package batch_test

import (
	"bytes"
	"encoding/binary"
	"math/rand/v2"
	"slices"
	"strings"
	"testing"

	"stemma/api"
	"stemma/batch"
	"stemma/ops"
)

// putSigned puts a number with a sign; the library's own varints double a number from 0 on, too, and give -1 as 1.
func putSigned(b []byte, n int) []byte { return binary.AppendVarint(b, int64(n)) }

// putRuns puts a column of numbers, run by run.
func putRuns(b []byte, l []int) []byte {
	for len(l) > 0 {
		n := 1
		for n < len(l) && l[n] == l[0] {
			n++
		}
		b = putSigned(binary.AppendUvarint(b, uint64(n)), l[0])
		l = l[n:]
	}
	return b
}

// putDeltas puts a column of numbers as differences.
func putDeltas(b []byte, l []int) []byte {
	l = slices.Clone(l)
	for i := len(l) - 1; i > 0; i-- {
		l[i] -= l[i-1]
	}
	return putRuns(b, l)
}

// putTruths puts a column of truths.
func putTruths(b []byte, l []bool) []byte {
	for now := false; len(l) > 0; now = !now {
		n := 0
		for n < len(l) && l[n] == now {
			n++
		}
		b = binary.AppendUvarint(b, uint64(n))
		l = l[n:]
	}
	return b
}

// The places of the columns among the parts of a list's bytes.
const (
	partN = iota
	partIDN
	partIDR
	partDeps // the first one of eight
	partKind = iota + 7
	partRefN
	partRefR
	partSide
	partCh
	partUnderN
	partUnderR
	partFromN
	partFromR
	partToN
	partToR
	partFromAfter
	partToAfter
	partKeyLengths
	partKeys
	partNameLengths
	partNames
	partValueLengths
	partValues
)

// partsOf are the chapter's BYTES, part by part as it names them.
func partsOf(l []api.Op) [][]byte {
	pick := func(of func(api.Op) int) (values []int) {
		for _, o := range l {
			values = append(values, of(o))
		}
		return values
	}
	parts := [][]byte{binary.AppendUvarint(nil, uint64(len(l)))}
	deltas := func(of func(api.Op) int) { parts = append(parts, putDeltas(nil, pick(of))) }
	runs := func(of func(api.Op) int) { parts = append(parts, putRuns(nil, pick(of))) }
	deltas(func(o api.Op) int { return o.ID.N })
	runs(func(o api.Op) int { return o.ID.R })
	for r := range 8 {
		deltas(func(o api.Op) int { return o.Deps[r] })
	}
	runs(func(o api.Op) int { return int(o.Kind) })
	deltas(func(o api.Op) int { return o.Ref.N })
	runs(func(o api.Op) int { return o.Ref.R })
	runs(func(o api.Op) int { return int(o.Side) })
	runs(func(o api.Op) int { return o.Ch })
	runs(func(o api.Op) int { return o.Under.N })
	runs(func(o api.Op) int { return o.Under.R })
	runs(func(o api.Op) int { return o.From.ID.N })
	runs(func(o api.Op) int { return o.From.ID.R })
	runs(func(o api.Op) int { return o.To.ID.N })
	runs(func(o api.Op) int { return o.To.ID.R })
	var from, to []bool
	for _, o := range l {
		from, to = append(from, o.From.After), append(to, o.To.After)
	}
	parts = append(parts, putTruths(nil, from), putTruths(nil, to))
	for _, text := range []func(api.Op) string{
		func(o api.Op) string { return o.Key },
		func(o api.Op) string { return o.Name },
		func(o api.Op) string { return o.Value },
	} {
		runs(func(o api.Op) int { return len(text(o)) })
		var all []byte
		for _, o := range l {
			all = append(all, text(o)...)
		}
		parts = append(parts, all)
	}
	return parts
}

// bytesOf are the chapter's BYTES.
func bytesOf(l []api.Op) []byte { return bytes.Join(partsOf(l), nil) }

// lax reads bytes and overlooks what is put another way than it should be, till it cannot go on.
type lax struct {
	b    []byte
	lost bool
}

func (x *lax) unsigned() uint64 {
	n, k := binary.Uvarint(x.b)
	if k <= 0 {
		x.b, x.lost = nil, true
		return 0
	}
	x.b = x.b[k:]
	return n
}

func (x *lax) signed() int {
	n, k := binary.Varint(x.b)
	if k <= 0 {
		x.b, x.lost = nil, true
		return 0
	}
	x.b = x.b[k:]
	return int(n)
}

func (x *lax) runs(n int) []int {
	l := make([]int, 0, n)
	for len(l) < n && !x.lost {
		count := x.unsigned()
		value := x.signed()
		for ; count > 0 && len(l) < n; count-- {
			l = append(l, value)
		}
	}
	return l[:n]
}

func (x *lax) deltas(n int) []int {
	l := x.runs(n)
	for i := 1; i < n; i++ {
		l[i] += l[i-1]
	}
	return l
}

func (x *lax) truths(n int) []bool {
	l := make([]bool, 0, n)
	for now := false; len(l) < n && !x.lost; now = !now {
		for count := x.unsigned(); count > 0 && len(l) < n; count-- {
			l = append(l, now)
		}
	}
	return l[:n]
}

func (x *lax) texts(n int) []string {
	l := make([]string, n)
	for i, length := range x.runs(n) {
		length = max(0, min(length, len(x.b)))
		l[i], x.b = string(x.b[:length]), x.b[length:]
	}
	return l
}

// opsOf are the operations of which b is the bytes, and whether there are such: those that a lax reader sees, if they may be
// and their bytes are b.
func opsOf(b []byte) ([]api.Op, bool) {
	x := &lax{b: b}
	n := x.unsigned()
	if x.lost || n > 200 {
		return nil, false
	}
	l := make([]api.Op, n)
	fill := func(values []int, set func(*api.Op, int)) {
		for i, v := range values {
			set(&l[i], v)
		}
	}
	fill(x.deltas(len(l)), func(o *api.Op, v int) { o.ID.N = v })
	fill(x.runs(len(l)), func(o *api.Op, v int) { o.ID.R = v })
	for r := range 8 {
		fill(x.deltas(len(l)), func(o *api.Op, v int) { o.Deps[r] = v })
	}
	fill(x.runs(len(l)), func(o *api.Op, v int) { o.Kind = api.Kind(v) })
	fill(x.deltas(len(l)), func(o *api.Op, v int) { o.Ref.N = v })
	fill(x.runs(len(l)), func(o *api.Op, v int) { o.Ref.R = v })
	fill(x.runs(len(l)), func(o *api.Op, v int) { o.Side = api.Side(v) })
	fill(x.runs(len(l)), func(o *api.Op, v int) { o.Ch = v })
	fill(x.runs(len(l)), func(o *api.Op, v int) { o.Under.N = v })
	fill(x.runs(len(l)), func(o *api.Op, v int) { o.Under.R = v })
	fill(x.runs(len(l)), func(o *api.Op, v int) { o.From.ID.N = v })
	fill(x.runs(len(l)), func(o *api.Op, v int) { o.From.ID.R = v })
	fill(x.runs(len(l)), func(o *api.Op, v int) { o.To.ID.N = v })
	fill(x.runs(len(l)), func(o *api.Op, v int) { o.To.ID.R = v })
	from, to := x.truths(len(l)), x.truths(len(l))
	key, name, value := x.texts(len(l)), x.texts(len(l)), x.texts(len(l))
	for i := range l {
		l[i].From.After, l[i].To.After = from[i], to[i]
		l[i].Key, l[i].Name, l[i].Value = key[i], name[i], value[i]
	}
	wrong := slices.ContainsFunc(l, func(o api.Op) bool { return !ops.Right(o) })
	return l, !x.lost && !wrong && bytes.Equal(bytesOf(l), b)
}

// text is some bytes of those that may be, the last one of those that may stand last.
func text(r *rand.Rand, n int, may, last string) string {
	var b strings.Builder
	for range n - 1 {
		b.WriteByte(may[r.IntN(len(may))])
	}
	if n > 0 {
		b.WriteByte(last[r.IntN(len(last))])
	}
	return b.String()
}

const (
	letters = "abcdefghijklmnopqrstuvwxyz"
	figures = "123456789"
	others  = " !\"#$%&'()*+,-./:;<=>?@[\\]^_`{|}~"
)

// anyOp is a right operation of any kind.
func anyOp(r *rand.Rand) api.Op {
	most := []int{8, 300, api.MaxCounter}[r.IntN(3)]
	o := api.Op{ID: api.Stamp{N: 1 + r.IntN(most), R: r.IntN(8)}}
	for range r.IntN(9) {
		o.Deps[r.IntN(8)] = r.IntN(o.ID.N)
	}
	var known []api.Stamp
	for by, n := range o.Deps {
		if n > 0 {
			known = append(known, api.Stamp{N: 1 + r.IntN(n), R: by})
		}
	}
	one := func() api.Stamp { return known[r.IntN(len(known))] }
	kind := api.Kind(1 + r.IntN(5))
	if len(known) == 0 {
		kind = api.Insert
	}
	switch o.Kind = kind; kind {
	case api.Insert:
		o.Side, o.Ch = api.Right, r.IntN(2)*(32+r.IntN(95))
		if len(known) > 0 && r.IntN(4) > 0 {
			o.Ref, o.Side = one(), api.Side(1+r.IntN(2))
		}
	case api.Delete:
		o.Ref = one()
	case api.Move:
		o.Ref, o.Under = one(), one()
		o.Key = text(r, 1+r.IntN(64), letters+figures+"0", letters+figures)
		if o.Under == o.Ref {
			o.Under = api.Stamp{}
		}
	case api.Set:
		o.Ref = one()
	case api.Mark:
		o.From, o.To = api.Anchor{ID: one(), After: r.IntN(2) == 0}, api.Anchor{ID: one(), After: r.IntN(2) == 0}
	}
	if kind == api.Set || kind == api.Mark {
		o.Name = text(r, 1+r.IntN(8), letters, letters)
		o.Value = text(r, r.IntN(17), letters+others+"0", letters+others+"0")
	}
	return o
}

// anyList is a list of right operations, some alike, some one behind the other as somebody types them.
func anyList(r *rand.Rand, n int) []api.Op {
	var l []api.Op
	for len(l) < n {
		o := anyOp(r)
		if len(l) > 0 {
			switch last := l[len(l)-1]; {
			case r.IntN(8) == 0:
				o = last
			case r.IntN(2) == 0 && last.ID.N < api.MaxCounter:
				o = api.Op{ID: api.Stamp{N: last.ID.N + 1, R: last.ID.R}, Deps: last.Deps, Kind: api.Insert, Ref: last.ID, Side: api.Right, Ch: 32 + r.IntN(95)}
				o.Deps[last.ID.R] = last.ID.N
			}
		}
		l = append(l, o)
	}
	return l
}

// E1, E2, P8.2: lists of whatever operations, against another reading of the chapter.
func TestLists(t *testing.T) {
	r := rand.New(rand.NewPCG(8, 1))
	for n := range api.MaxBatch + 1 {
		for range 5 {
			l := anyList(r, n)
			checkThere(t, l, bytesOf(l))
		}
	}
}

// checkBytes holds Decode of b against another reading of the chapter, and tells whether b is bytes of some operations.
func checkBytes(t *testing.T, b []byte) bool {
	t.Helper()
	want, is := opsOf(b)
	got, e := batch.Decode(b)
	if !is {
		if e != api.ErrBatch || len(got) != 0 {
			t.Errorf("Decode of %v: %v, %v", b, brief(got), e)
		}
		return false
	}
	if e != api.OK || !slices.Equal(got, want) {
		t.Errorf("Decode of %v: %v, %v, not %v", b, brief(got), e, brief(want))
	}
	if again, e := batch.Encode(got); e != api.OK || !bytes.Equal(again, b) {
		t.Errorf("Encode of Decode of %v: %v, %v", b, again, e)
	}
	return true
}

// E2: right bytes with one of them changed, left out, or doubled.
func TestChangedBytes(t *testing.T) {
	r := rand.New(rand.NewPCG(8, 2))
	is := 0
	check := func(b []byte) {
		if checkBytes(t, b) {
			is++
		}
	}
	for n := range 9 {
		b := bytesOf(anyList(r, n))
		for i := range b {
			changed := slices.Clone(b)
			for x := range 256 {
				changed[i] = byte(x)
				check(changed)
			}
			check(slices.Delete(slices.Clone(b), i, i+1))
			check(slices.Insert(slices.Clone(b), i, b[i]))
			check(slices.Insert(slices.Clone(b), i, 0))
			check(slices.Insert(slices.Clone(b), i, 128))
		}
	}
	if is < 1000 {
		t.Errorf("only %d of them are bytes of operations", is)
	}
}

// E2: whatever bytes.
func TestAnyBytes(t *testing.T) {
	r := rand.New(rand.NewPCG(8, 3))
	for range 20000 {
		b := make([]byte, r.IntN(80))
		for i := range b {
			b[i] = byte(r.IntN(1 << (1 + r.IntN(8))))
		}
		checkBytes(t, b)
	}
}

// E2, P8.2 at whatever bytes.
func FuzzDecode(f *testing.F) {
	r := rand.New(rand.NewPCG(8, 4))
	f.Add([]byte{})
	for n := range 5 {
		f.Add(bytesOf(anyList(r, n)))
	}
	f.Add(bytesOf(anyList(r, api.MaxBatch)))
	for _, o := range some() {
		f.Add(bytesOf([]api.Op{o}))
	}
	f.Add(bytesOf(some()))
	f.Fuzz(func(t *testing.T, b []byte) {
		checkBytes(t, b)
	})
}
