package varint_test

import (
	"bytes"
	"math"
	"math/big"
	"slices"
	"testing"

	"stemma/api"
	"stemma/varint"
)

// exact is what N1 says of Put, reckoned with numbers of any size: the figures to the base 128, the lowest one first.
func exact(n *big.Int) []byte {
	var b []byte
	base := big.NewInt(128)
	rest, figure := new(big.Int).Set(n), new(big.Int)
	for {
		rest.DivMod(rest, base, figure)
		if rest.Sign() == 0 {
			return append(b, byte(figure.Int64()))
		}
		b = append(b, byte(figure.Int64()+128))
	}
}

// find is what N1 says of Take: of each number of bytes, whether these are those of a number.
func find(b []byte) (uint64, int, api.Errno) {
	for k := 1; k <= len(b) && k <= 10; k++ {
		n := new(big.Int)
		for i := k - 1; i >= 0; i-- {
			n.Mul(n, big.NewInt(128))
			n.Add(n, big.NewInt(int64(b[i]%128)))
		}
		if n.IsUint64() && bytes.Equal(exact(n), b[:k]) {
			return n.Uint64(), k, api.OK
		}
	}
	return 0, 0, api.ErrVarint
}

// edges are numbers at which the count of bytes, or of bits, changes, and their neighbours.
func edges() []uint64 {
	list := []uint64{0, 1, 300, math.MaxUint64}
	for bit := range 64 {
		n := uint64(1) << bit
		list = append(list, n-1, n, n+1, 3*n, math.MaxUint64-n)
	}
	return list
}

func checkTake(t *testing.T, b []byte) {
	t.Helper()
	wantN, wantK, wantErr := find(b)
	kept := slices.Clone(b)
	n, k, err := varint.Take(b)
	if n != wantN || k != wantK || err != wantErr {
		t.Fatalf("Take(%v): %d, %d, %v; not %d, %d, %v", b, n, k, err, wantN, wantK, wantErr)
	}
	if !bytes.Equal(b, kept) {
		t.Fatalf("Take wrote into %v: %v", kept, b)
	}
	if err == api.OK && !bytes.Equal(varint.Put(n), b[:k]) {
		t.Fatalf("Take(%v) took %d, of which Put is %v", b, n, varint.Put(n))
	}
}

// N1 (P3.1): Put, by hand.
func TestPut(t *testing.T) {
	for _, c := range []struct {
		n    uint64
		want []byte
	}{
		{0, []byte{0}},
		{1, []byte{1}},
		{127, []byte{127}},
		{128, []byte{128, 1}},
		{129, []byte{129, 1}},
		{255, []byte{255, 1}},
		{256, []byte{128, 2}},
		{300, []byte{172, 2}},
		{16383, []byte{255, 127}},
		{16384, []byte{128, 128, 1}},
		{api.MaxCounter, []byte{128, 128, 64}},
		{1<<56 - 1, []byte{255, 255, 255, 255, 255, 255, 255, 127}},
		{1 << 56, []byte{128, 128, 128, 128, 128, 128, 128, 128, 1}},
		{1<<63 - 1, []byte{255, 255, 255, 255, 255, 255, 255, 255, 127}},
		{1 << 63, []byte{128, 128, 128, 128, 128, 128, 128, 128, 128, 1}},
		{math.MaxUint64, []byte{255, 255, 255, 255, 255, 255, 255, 255, 255, 1}},
	} {
		if b := varint.Put(c.n); !bytes.Equal(b, c.want) {
			t.Errorf("Put(%d): %v, not %v", c.n, b, c.want)
		}
	}
}

// N1 (P3.1): Put has the figures of exact numbers, 1 to 10 of them.
func TestPutExact(t *testing.T) {
	for _, n := range edges() {
		b := varint.Put(n)
		if want := exact(new(big.Int).SetUint64(n)); !bytes.Equal(b, want) {
			t.Errorf("Put(%d): %v, not %v", n, b, want)
		}
		if len(b) < 1 || len(b) > 10 {
			t.Errorf("Put(%d): %d bytes", n, len(b))
		}
	}
}

// N1 (P3.1): Take, by hand: with bytes behind, and what is no number.
func TestTake(t *testing.T) {
	for _, c := range []struct {
		b    []byte
		n    uint64
		k    int
		err  api.Errno
		what string
	}{
		{[]byte{0}, 0, 1, api.OK, "0"},
		{[]byte{0, 0}, 0, 1, api.OK, "0, and a 0 behind"},
		{[]byte{0, 128}, 0, 1, api.OK, "0, and what breaks off behind"},
		{[]byte{127}, 127, 1, api.OK, "the greatest of one byte"},
		{[]byte{128, 1}, 128, 2, api.OK, "the least of two"},
		{[]byte{172, 2}, 300, 2, api.OK, "300"},
		{[]byte{172, 2, 9}, 300, 2, api.OK, "300 and a byte"},
		{[]byte{255, 255, 255, 255, 255, 255, 255, 255, 127}, 1<<63 - 1, 9, api.OK, "the greatest of nine"},
		{[]byte{128, 128, 128, 128, 128, 128, 128, 128, 128, 1}, 1 << 63, 10, api.OK, "the least of ten"},
		{[]byte{255, 255, 255, 255, 255, 255, 255, 255, 255, 1}, math.MaxUint64, 10, api.OK, "the greatest"},
		{[]byte{255, 255, 255, 255, 255, 255, 255, 255, 255, 1, 255}, math.MaxUint64, 10, api.OK, "the greatest and a byte"},

		{nil, 0, 0, api.ErrVarint, "nil"},
		{[]byte{}, 0, 0, api.ErrVarint, "no bytes"},
		{[]byte{128}, 0, 0, api.ErrVarint, "it breaks off"},
		{[]byte{255, 255, 255}, 0, 0, api.ErrVarint, "it breaks off behind three"},
		{[]byte{255, 255, 255, 255, 255, 255, 255, 255, 255}, 0, 0, api.ErrVarint, "it breaks off behind nine"},
		{[]byte{128, 0}, 0, 0, api.ErrVarint, "0 in two bytes"},
		{[]byte{172, 130, 0}, 0, 0, api.ErrVarint, "300 in three bytes"},
		{[]byte{255, 255, 255, 255, 255, 255, 255, 255, 255, 0}, 0, 0, api.ErrVarint, "nine figures in ten bytes"},
		{[]byte{128, 128, 128, 128, 128, 128, 128, 128, 128, 0}, 0, 0, api.ErrVarint, "0 in ten bytes"},
		{[]byte{255, 255, 255, 255, 255, 255, 255, 255, 255, 2}, 0, 0, api.ErrVarint, "too great"},
		{[]byte{128, 128, 128, 128, 128, 128, 128, 128, 128, 2}, 0, 0, api.ErrVarint, "2^64"},
		{[]byte{129, 128, 128, 128, 128, 128, 128, 128, 128, 3}, 0, 0, api.ErrVarint, "2^64 + 2^63 + 1"},
		{[]byte{255, 255, 255, 255, 255, 255, 255, 255, 255, 127}, 0, 0, api.ErrVarint, "the greatest of ten bytes"},
		{[]byte{255, 255, 255, 255, 255, 255, 255, 255, 255, 129}, 0, 0, api.ErrVarint, "it breaks off behind ten"},
		{[]byte{255, 255, 255, 255, 255, 255, 255, 255, 255, 129, 1}, 0, 0, api.ErrVarint, "eleven bytes"},
		{[]byte{128, 128, 128, 128, 128, 128, 128, 128, 128, 128, 0}, 0, 0, api.ErrVarint, "0 in eleven bytes"},
	} {
		if n, k, err := varint.Take(c.b); n != c.n || k != c.k || err != c.err {
			t.Errorf("Take of %s: %d, %d, %v; not %d, %d, %v", c.what, n, k, err, c.n, c.k, c.err)
		}
	}
}

// P3.2: Take of Put, with anything behind, is the number.
func TestThereAndBack(t *testing.T) {
	for _, n := range edges() {
		b := varint.Put(n)
		for _, behind := range [][]byte{nil, {0}, {1}, {127}, {128}, {255, 255}, b} {
			got, k, err := varint.Take(slices.Concat(b, behind))
			if got != n || k != len(b) || err != api.OK {
				t.Errorf("Take of Put(%d) and %v: %d, %d, %v", n, behind, got, k, err)
			}
		}
		for k := range b {
			if got, took, err := varint.Take(b[:k]); got != 0 || took != 0 || err != api.ErrVarint {
				t.Errorf("Take of the first %d bytes of Put(%d): %d, %d, %v", k, n, got, took, err)
			}
		}
	}
}

// N1, P3.2: Take takes what Put gives, and nothing else, of all bytes up to two, and of those up to six that are edges.
func TestTakeAll(t *testing.T) {
	checkTake(t, nil)
	for one := range 256 {
		checkTake(t, []byte{byte(one)})
		for two := range 256 {
			checkTake(t, []byte{byte(one), byte(two)})
		}
	}
	var grow func(b []byte)
	grow = func(b []byte) {
		checkTake(t, b)
		if len(b) == 6 {
			return
		}
		for _, next := range []byte{0, 1, 127, 128, 129, 255} {
			grow(append(b, next))
		}
	}
	grow(nil)
}

// N1, P3.2: all last bytes, behind so many others, with more behind them or not.
func TestTakeLast(t *testing.T) {
	for _, figure := range []byte{128, 129, 200, 255} {
		for ahead := range 12 {
			for last := range 256 {
				b := append(bytes.Repeat([]byte{figure}, ahead), byte(last))
				checkTake(t, b)
				for _, behind := range []byte{0, 1, 2, 128} {
					checkTake(t, append(b, behind))
				}
			}
		}
	}
}

// N2 (P3.1): Zig and Zag, by hand.
func TestZigZag(t *testing.T) {
	for _, c := range []struct {
		n    int64
		want uint64
	}{
		{0, 0}, {-1, 1}, {1, 2}, {-2, 3}, {2, 4}, {63, 126}, {-64, 127}, {64, 128}, {-150, 299}, {150, 300},
		{math.MaxInt32, 1<<32 - 2}, {math.MinInt32, 1<<32 - 1},
		{math.MaxInt64 - 1, math.MaxUint64 - 3}, {math.MinInt64 + 1, math.MaxUint64 - 2},
		{math.MaxInt64, math.MaxUint64 - 1}, {math.MinInt64, math.MaxUint64},
	} {
		if got := varint.Zig(c.n); got != c.want {
			t.Errorf("Zig(%d): %d, not %d", c.n, got, c.want)
		}
		if got := varint.Zag(c.want); got != c.n {
			t.Errorf("Zag(%d): %d, not %d", c.want, got, c.n)
		}
	}
}

// N2 (P3.1): Zig as an exact number. P3.3: Zag of Zig is the number, and Zig of Zag.
func TestOneByOne(t *testing.T) {
	for _, u := range edges() {
		for _, n := range []int64{int64(u), -int64(u), ^int64(u)} {
			want := new(big.Int).Mul(big.NewInt(n), big.NewInt(2))
			if n < 0 {
				want.Neg(want).Sub(want, big.NewInt(1))
			}
			if got := varint.Zig(n); new(big.Int).SetUint64(got).Cmp(want) != 0 {
				t.Errorf("Zig(%d): %d, not %v", n, got, want)
			}
			if got := varint.Zag(varint.Zig(n)); got != n {
				t.Errorf("Zag of Zig(%d): %d", n, got)
			}
		}
		if got := varint.Zig(varint.Zag(u)); got != u {
			t.Errorf("Zig of Zag(%d): %d", u, got)
		}
	}
}

// Rule 4: Put answers new memory each time; Take neither writes nor reads behind a list's length.
func TestMemory(t *testing.T) {
	a, b := varint.Put(300), varint.Put(300)
	clear(a[:cap(a)])
	if !bytes.Equal(b, []byte{172, 2}) || !bytes.Equal(varint.Put(300), []byte{172, 2}) {
		t.Errorf("what Put answered shares memory: %v", b)
	}
	whole := []byte{172, 2, 9}
	if n, k, err := varint.Take(whole[:1]); n != 0 || k != 0 || err != api.ErrVarint {
		t.Errorf("Take read behind the length: %d, %d, %v", n, k, err)
	}
	if !bytes.Equal(whole, []byte{172, 2, 9}) {
		t.Errorf("Take wrote: %v", whole)
	}
}

// P1, P2: each call ends, and answers the same again, whatever was asked between.
func TestSameAgain(t *testing.T) {
	first := map[uint64][]byte{}
	for range 2 {
		for _, n := range edges() {
			b := varint.Put(n)
			if before, ok := first[n]; ok && !bytes.Equal(before, b) {
				t.Errorf("Put(%d): %v, then %v", n, before, b)
			}
			first[n] = b
			varint.Take(b[1:])
			checkTake(t, b)
		}
	}
}

// P3.2, N1: whatever the bytes are.
func FuzzTake(f *testing.F) {
	for _, n := range edges() {
		f.Add(varint.Put(n))
		f.Add(append(varint.Put(n), 0))
		f.Add(append(bytes.Repeat([]byte{128}, int(n%11)), 0))
	}
	f.Fuzz(checkTake)
}

// P3.2, P3.3: whatever the number is.
func FuzzNumber(f *testing.F) {
	for _, n := range edges() {
		f.Add(n, []byte{0, 255})
	}
	f.Fuzz(func(t *testing.T, n uint64, behind []byte) {
		b := varint.Put(n)
		if want := exact(new(big.Int).SetUint64(n)); !bytes.Equal(b, want) {
			t.Errorf("Put(%d): %v, not %v", n, b, want)
		}
		if got, k, err := varint.Take(slices.Concat(b, behind)); got != n || k != len(b) || err != api.OK {
			t.Errorf("Take of Put(%d) and %v: %d, %d, %v", n, behind, got, k, err)
		}
		if got := varint.Zig(varint.Zag(n)); got != n {
			t.Errorf("Zig of Zag(%d): %d", n, got)
		}
		if got := varint.Zag(varint.Zig(int64(n))); got != int64(n) {
			t.Errorf("Zag of Zig(%d): %d", int64(n), got)
		}
	})
}
