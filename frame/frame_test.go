package frame_test

import (
	"bytes"
	"encoding/binary"
	"fmt"
	"hash/crc32"
	"math"
	"slices"
	"strings"
	"sync"
	"testing"

	"stemma/api"
	"stemma/frame"
)

// wantSum is what the chapter says of the sum: the library's, of the same polynomial.
func wantSum(b []byte) uint32 {
	return crc32.Checksum(b, crc32.MakeTable(0x82F63B78))
}

// head is a frame's mark, kind and length, whatever its length is.
func head(kind byte, length uint32) []byte {
	return binary.LittleEndian.AppendUint32([]byte{83, 84, kind}, length)
}

// framed is what the chapter says of a frame, with whatever length it is given, and the sum that goes with that.
func framed(kind byte, length uint32, body []byte) []byte {
	f := head(kind, length)
	f = binary.LittleEndian.AppendUint32(f, wantSum(slices.Concat(f[2:], body)))
	return append(f, body...)
}

// want is the frame of a kind and a body.
func want(kind byte, body []byte) []byte { return framed(kind, uint32(len(body)), body) }

// lengthBegins has all that the four bytes of a frame's length may begin with.
var lengthBegins = sync.OnceValue(func() map[string]bool {
	set := map[string]bool{}
	for n := range uint32(65537) {
		length := binary.LittleEndian.AppendUint32(nil, n)
		for k := range 5 {
			set[string(length[:k])] = true
		}
	}
	return set
})

// find is what F2 says of Take: a frame is one that b begins with, held against it as a whole.
func find(b []byte) (byte, []byte, int, api.Errno) {
	ofHead := b[:min(len(b), 7)]
	switch {
	case len(b) < 3 && !strings.HasPrefix("ST", string(b)):
		return 0, nil, 0, api.ErrFrame
	case len(b) < 3:
		return 0, nil, 0, api.ErrShort
	case b[0] != 83 || b[1] != 84 || !lengthBegins()[string(ofHead[3:])]:
		return 0, nil, 0, api.ErrFrame
	case len(b) < 11 || len(b)-11 < int(binary.LittleEndian.Uint32(b[3:])):
		return 0, nil, 0, api.ErrShort
	}
	body := b[11 : 11+binary.LittleEndian.Uint32(b[3:])]
	if !bytes.HasPrefix(b, want(b[2], body)) {
		return 0, nil, 0, api.ErrFrame
	}
	return b[2], body, 11 + len(body), api.OK
}

// checkTake holds one take against find, and what was taken against its bytes (P5.2).
func checkTake(t *testing.T, b []byte) {
	t.Helper()
	wantKind, wantBody, wantK, wantErr := find(b)
	kept := slices.Clone(b)
	kind, body, k, err := frame.Take(b)
	if kind != wantKind || !bytes.Equal(body, wantBody) || k != wantK || err != wantErr {
		t.Fatalf("Take(%v): %d, %v, %d, %v; not %d, %v, %d, %v", b, kind, body, k, err, wantKind, wantBody, wantK, wantErr)
	}
	if !bytes.Equal(b, kept) {
		t.Fatalf("Take wrote into %v: %v", kept, b)
	}
	if err != api.OK {
		return
	}
	if f, err := frame.Wrap(kind, body); !bytes.Equal(f, b[:k]) || err != api.OK {
		t.Fatalf("Take(%v) took %d and %v, of which Wrap makes %v, %v", b, kind, body, f, err)
	}
}

// checkNone holds that nothing was taken, with an error.
func checkNone(t *testing.T, what string, b []byte, wanted api.Errno) {
	t.Helper()
	if kind, body, k, err := frame.Take(b); kind != 0 || len(body) != 0 || k != 0 || err != wanted {
		t.Fatalf("Take of %s: %d, %v, %d, %v; not %v", what, kind, body, k, err, wanted)
	}
}

// wrap is a frame that has to be one, held against F1.
func wrap(t *testing.T, kind byte, body []byte) []byte {
	t.Helper()
	kept := slices.Clone(body)
	f, err := frame.Wrap(kind, body)
	if !bytes.Equal(f, want(kind, kept)) || err != api.OK {
		t.Fatalf("Wrap(%d, %v): %v, %v; not %v", kind, kept, f, err, want(kind, kept))
	}
	if !bytes.Equal(body, kept) {
		t.Fatalf("Wrap wrote into %v: %v", kept, body)
	}
	return f
}

// some is a body of so many bytes, of all values.
func some(n int) []byte {
	b := make([]byte, n)
	for i := range b {
		b[i] = byte(i*167 + i/256*31)
	}
	return b
}

// edges are lengths of bodies at which a byte of the length changes, and their neighbours.
var edges = []int{0, 1, 2, 3, 10, 11, 12, 127, 128, 254, 255, 256, 257, 511, 512, 65279, 65280, 65534, 65535, 65536}

// F1 (P5.1): Sum, of the chapter's example, and of others that are known (RFC 3720 has some).
func TestSum(t *testing.T) {
	up, down := make([]byte, 32), make([]byte, 32)
	for i := range 32 {
		up[i], down[i] = byte(i), byte(31-i)
	}
	for _, c := range []struct {
		b    []byte
		want uint32
	}{
		{nil, 0},
		{[]byte{}, 0},
		{[]byte("123456789"), 0xe3069283},
		{[]byte("a"), 0xc1d04330},
		{[]byte{0}, 0x527d5351},
		{make([]byte, 32), 0x8a9136aa},
		{bytes.Repeat([]byte{255}, 32), 0x62a8ab43},
		{up, 0x46dd794e},
		{down, 0x113fdb5c},
	} {
		if sum := frame.Sum(c.b); sum != c.want {
			t.Errorf("Sum(%v): %#x, not %#x", c.b, sum, c.want)
		}
	}
}

// F1 (P5.1): Sum, of all bytes, of all two, and of lengths about the edges.
func TestSums(t *testing.T) {
	check := func(b []byte) {
		if sum := frame.Sum(b); sum != wantSum(b) {
			t.Fatalf("Sum(%v): %#x, not %#x", b, sum, wantSum(b))
		}
	}
	for first := range 256 {
		check([]byte{byte(first)})
		for second := range 256 {
			check([]byte{byte(first), byte(second)})
		}
	}
	for n := range 600 {
		check(some(n))
		check(make([]byte, n))
		check(bytes.Repeat([]byte{255}, n))
	}
	for _, n := range edges {
		check(some(n))
	}
	check(some(65537)) // MaxBody binds Wrap and Take alone
	check(some(1 << 20))
}

// F1 (P5.1): Wrap, by hand.
func TestWrap(t *testing.T) {
	for _, c := range []struct {
		kind byte
		body []byte
		want []byte
	}{
		{66, []byte("hi"), []byte{83, 84, 66, 2, 0, 0, 0, 84, 58, 255, 206, 104, 105}},
		{0, nil, []byte{83, 84, 0, 0, 0, 0, 0, 53, 118, 114, 69}},
		{0, []byte{}, []byte{83, 84, 0, 0, 0, 0, 0, 53, 118, 114, 69}},
		{255, nil, []byte{83, 84, 255, 0, 0, 0, 0, 150, 24, 26, 229}},
		{65, make([]byte, 8), []byte{83, 84, 65, 8, 0, 0, 0, 252, 63, 183, 14, 0, 0, 0, 0, 0, 0, 0, 0}},
	} {
		if f, err := frame.Wrap(c.kind, c.body); !bytes.Equal(f, c.want) || err != api.OK {
			t.Errorf("Wrap(%d, %v): %v, %v; not %v", c.kind, c.body, f, err, c.want)
		}
	}
}

// F1 (P5.1): all kinds, and lengths about the edges; the four bytes of the length by hand.
func TestWraps(t *testing.T) {
	for kind := range 256 {
		wrap(t, byte(kind), nil)
		wrap(t, byte(kind), []byte{83, 84, byte(kind)})
	}
	for _, n := range edges {
		for _, kind := range []byte{0, 71, 255} {
			wrap(t, kind, some(n))
		}
	}
	for n, length := range map[int][]byte{
		0: {0, 0, 0, 0}, 1: {1, 0, 0, 0}, 255: {255, 0, 0, 0}, 256: {0, 1, 0, 0}, 65535: {255, 255, 0, 0}, 65536: {0, 0, 1, 0},
	} {
		if f := wrap(t, 9, some(n)); !bytes.Equal(f[3:7], length) || len(f) != 11+n {
			t.Errorf("a frame of %d bytes: %d bytes, its length %v", n, len(f), f[3:7])
		}
	}
}

// F1 (P5.1): a body that is too long.
func TestWrapTooLong(t *testing.T) {
	for _, n := range []int{65537, 65538, 1 << 17, 1 << 20} {
		for _, kind := range []byte{0, 66, 255} {
			if f, err := frame.Wrap(kind, make([]byte, n)); len(f) != 0 || err != api.ErrArg {
				t.Errorf("Wrap of %d bytes: %d bytes, %v", n, len(f), err)
			}
		}
	}
}

// F2 (P5.1): Take, by hand: what breaks off, what is bent, and what lies behind a frame.
func TestTake(t *testing.T) {
	hi := []byte{83, 84, 66, 2, 0, 0, 0, 84, 58, 255, 206, 104, 105}
	none := []byte{83, 84, 0, 0, 0, 0, 0, 53, 118, 114, 69}
	for _, c := range []struct {
		what string
		b    []byte
		kind byte
		body string
		k    int
		err  api.Errno
	}{
		{"a frame", hi, 66, "hi", 13, api.OK},
		{"a frame of no bytes", none, 0, "", 11, api.OK},
		{"a byte behind", append(hi[:13:13], 9), 66, "hi", 13, api.OK},
		{"a frame behind", slices.Concat(none, hi), 0, "", 11, api.OK},
		{"the kind 255", []byte{83, 84, 255, 0, 0, 0, 0, 150, 24, 26, 229}, 255, "", 11, api.OK},

		{"nil", nil, 0, "", 0, api.ErrShort},
		{"no bytes", []byte{}, 0, "", 0, api.ErrShort},
		{"half the mark", []byte{83}, 0, "", 0, api.ErrShort},
		{"the mark", []byte{83, 84}, 0, "", 0, api.ErrShort},
		{"the mark and a kind", []byte{83, 84, 255}, 0, "", 0, api.ErrShort},
		{"a length that breaks off", []byte{83, 84, 66, 255, 255}, 0, "", 0, api.ErrShort},
		{"MaxBody that breaks off", []byte{83, 84, 66, 0, 0, 1}, 0, "", 0, api.ErrShort},
		{"no sum", []byte{83, 84, 66, 0, 0, 1, 0}, 0, "", 0, api.ErrShort},
		{"a sum that breaks off", none[:10], 0, "", 0, api.ErrShort},
		{"a wrong sum that breaks off", []byte{83, 84, 0, 0, 0, 0, 0, 54, 118, 114}, 0, "", 0, api.ErrShort},
		{"no body", hi[:11], 0, "", 0, api.ErrShort},
		{"a body that breaks off", hi[:12], 0, "", 0, api.ErrShort},
		{"a wrong sum, no body", []byte{83, 84, 66, 2, 0, 0, 0, 0, 0, 0, 0}, 0, "", 0, api.ErrShort},
		{"a wrong sum, half the body", []byte{83, 84, 66, 2, 0, 0, 0, 0, 0, 0, 0, 104}, 0, "", 0, api.ErrShort},

		{"another byte", []byte{82}, 0, "", 0, api.ErrFrame},
		{"the mark's second byte", []byte{84}, 0, "", 0, api.ErrFrame},
		{"half another mark", []byte{83, 83}, 0, "", 0, api.ErrFrame},
		{"another mark's second half", []byte{84, 84}, 0, "", 0, api.ErrFrame},
		{"a mark turned round", []byte{84, 83}, 0, "", 0, api.ErrFrame},
		{"a mark in small letters", []byte("st"), 0, "", 0, api.ErrFrame},
		{"a byte ahead of a frame", slices.Concat([]byte{0}, hi), 0, "", 0, api.ErrFrame},
		{"MaxBody + 1", []byte{83, 84, 66, 1, 0, 1, 0}, 0, "", 0, api.ErrFrame},
		{"MaxBody + 1 that breaks off", []byte{83, 84, 66, 1, 0, 1}, 0, "", 0, api.ErrFrame},
		{"MaxBody + 256 that breaks off", []byte{83, 84, 66, 0, 1, 1}, 0, "", 0, api.ErrFrame},
		{"2 MaxBody that breaks off", []byte{83, 84, 66, 0, 0, 2}, 0, "", 0, api.ErrFrame},
		{"a length of 2^24", []byte{83, 84, 66, 0, 0, 0, 1}, 0, "", 0, api.ErrFrame},
		{"a length of 2^24 + MaxBody", []byte{83, 84, 66, 0, 0, 1, 1}, 0, "", 0, api.ErrFrame},
		{"a length of 2^31", []byte{83, 84, 66, 0, 0, 0, 128, 0, 0, 0, 0}, 0, "", 0, api.ErrFrame},
		{"a length of 2^32 - 1", []byte{83, 84, 66, 255, 255, 255, 255, 0, 0, 0, 0}, 0, "", 0, api.ErrFrame},
		{"a wrong sum of no bytes", []byte{83, 84, 0, 0, 0, 0, 0, 0, 0, 0, 0}, 0, "", 0, api.ErrFrame},
		{"a wrong sum", []byte{83, 84, 66, 2, 0, 0, 0, 84, 58, 255, 207, 104, 105}, 0, "", 0, api.ErrFrame},
		{"a sum with the highest byte first", []byte{83, 84, 66, 2, 0, 0, 0, 206, 255, 58, 84, 104, 105}, 0, "", 0, api.ErrFrame},
		{"another body", []byte{83, 84, 66, 2, 0, 0, 0, 84, 58, 255, 206, 104, 106}, 0, "", 0, api.ErrFrame},
		{"another kind", []byte{83, 84, 67, 2, 0, 0, 0, 84, 58, 255, 206, 104, 105}, 0, "", 0, api.ErrFrame},
		{"another length, with the bytes for it", []byte{83, 84, 66, 3, 0, 0, 0, 84, 58, 255, 206, 104, 105, 0}, 0, "", 0, api.ErrFrame},
	} {
		if kind, body, k, err := frame.Take(c.b); kind != c.kind || string(body) != c.body || k != c.k || err != c.err {
			t.Errorf("Take of %s: %d, %q, %d, %v; not %d, %q, %d, %v", c.what, kind, body, k, err, c.kind, c.body, c.k, c.err)
		}
		checkTake(t, c.b)
	}
}

// P5.2: Take of Wrap, with anything behind, and broken off at each byte, whatever the sum is that it has.
func TestThereAndBack(t *testing.T) {
	for _, n := range edges {
		for _, kind := range []byte{0, 65, 83, 255} {
			body := some(n)
			f := wrap(t, kind, body)
			for _, behind := range [][]byte{nil, {0}, {83}, {255, 255, 255, 255}, f} {
				got, taken, k, err := frame.Take(slices.Concat(f, behind))
				if got != kind || !bytes.Equal(taken, body) || k != len(f) || err != api.OK {
					t.Fatalf("Take of a frame of the kind %d and %d bytes, and %d behind: %d, %d bytes, %d, %v", kind, n, len(behind), got, len(taken), k, err)
				}
			}
			for k := range f {
				checkNone(t, "what breaks off", f[:k], api.ErrShort)
			}
			for place := 7; place < 11; place++ {
				f[place]++
			}
			for k := range f {
				checkNone(t, "what breaks off, its sum wrong", f[:k], api.ErrShort)
			}
			checkNone(t, "what has a wrong sum", f, api.ErrFrame)
		}
	}
}

// F2 (P5.1): a mark that is another one: each, alone, and with all the rest of a frame behind.
func TestMark(t *testing.T) {
	f := want(66, []byte("hi"))
	for first := range 256 {
		alone := []byte{byte(first)}
		if first != 83 {
			checkNone(t, "another first byte", alone, api.ErrFrame)
		}
		for second := range 256 {
			if first == 83 && second == 84 {
				continue
			}
			marked := append(alone[:1:1], byte(second))
			checkNone(t, "another mark", marked, api.ErrFrame)
			checkNone(t, "another mark and the rest", append(marked, f[2:]...), api.ErrFrame)
		}
	}
}

// F2 (P5.1): a length above MaxBody is none, from the byte on that tells so, though its sum be right and its bytes there.
func TestLengthTooGreat(t *testing.T) {
	for _, length := range []uint32{65537, 65538, 65791, 65792, 65793, 1 << 17, 1<<24 - 1, 1 << 24, 1<<24 + 1, 1<<24 + 65536, 1<<31 - 1, 1 << 31, 1<<31 + 1, math.MaxUint32} {
		f := framed(66, length, some(int(min(length, 1<<17))))
		checkNone(t, "a length that is too great", f, api.ErrFrame)
		checkNone(t, "a length that is too great, alone", f[:7], api.ErrFrame)
		for k := range 12 {
			checkTake(t, f[:k])
		}
	}
	for _, length := range []uint32{65535, 65536} {
		checkNone(t, "a length that is great", head(66, length), api.ErrShort)
	}
}

// F2 (P5.1): each three lowest bytes of a length that are edges, broken off, and with the fourth one.
func TestLength(t *testing.T) {
	values := []byte{0, 1, 2, 127, 128, 255}
	for _, first := range values {
		for _, second := range values {
			for _, third := range values {
				b := []byte{83, 84, 7, first, second, third}
				for k := range b {
					checkTake(t, b[:k])
				}
				checkTake(t, b)
				for _, fourth := range values {
					checkTake(t, append(b[:6:6], fourth))
					checkTake(t, append(b[:6:6], fourth, 0, 0, 0, 0, 0))
				}
			}
		}
	}
}

// P5.3: one byte behind the length is changed, into each other one; there may be bytes behind.
func TestOneByte(t *testing.T) {
	check := func(f []byte, place int) {
		right := f[place]
		for range 255 {
			f[place]++
			checkNone(t, fmt.Sprintf("a frame of %d bytes, of which byte %d is %d for %d", len(f), place, f[place], right), f, api.ErrFrame)
		}
		f[place] = right
	}
	for _, n := range []int{0, 1, 2, 5, 60} {
		for _, kind := range []byte{0, 66, 255} {
			f := want(kind, some(n))
			check(f, 2) // the kind has its part in the sum, too
			for place := 7; place < len(f); place++ {
				check(f, place)
			}
		}
	}
	f := want(66, make([]byte, 8))
	behind := append(f[:len(f):len(f)], 1, 2, 3)
	for place := 7; place < len(f); place++ {
		behind[place] ^= 16
		checkNone(t, "a bent frame, and bytes behind", behind, api.ErrFrame)
		behind[place] ^= 16
	}
	checkTake(t, behind)
}

// P5.3: so it is of a body of MaxBody bytes.
func TestOneByteOfMany(t *testing.T) {
	f := want(71, some(65536))
	for place := 7; place < len(f); place += 251 {
		f[place] ^= 1 << (place % 8)
		checkNone(t, "a long frame, bent", f, api.ErrFrame)
		f[place] ^= 1 << (place % 8)
	}
	f[len(f)-1]++
	checkNone(t, "a long frame, its last byte bent", f, api.ErrFrame)
	f[len(f)-1]--
	checkTake(t, f)
}

// F2 (P5.1): the length changed: it is asked anew what it is then.
func TestOtherLength(t *testing.T) {
	f := want(66, make([]byte, 40))
	for place := 3; place < 7; place++ {
		for range 256 {
			f[place]++
			checkTake(t, f)
		}
	}
}

// F2, P5.2: whatever the bytes are: all of up to five that are edges, alone, and behind a head.
func TestTakeAll(t *testing.T) {
	values := []byte{0, 1, 83, 84, 255}
	var further func(b []byte)
	further = func(b []byte) {
		checkTake(t, b)
		for _, begin := range [][]byte{head(0, 0), head(66, 1), want(1, []byte{83})} {
			checkTake(t, slices.Concat(begin, b))
		}
		if len(b) == 5 {
			return
		}
		for _, value := range values {
			further(append(b, value))
		}
	}
	further(nil)
}

// Rule 4: what is answered is new memory; nothing is written into, nor read behind a list's length.
func TestMemory(t *testing.T) {
	whole := []byte("hi there")
	f := wrap(t, 66, whole[:2])
	again := wrap(t, 66, whole[:2])
	clear(f[:cap(f)])
	if !bytes.Equal(again, want(66, []byte("hi"))) || string(whole) != "hi there" {
		t.Errorf("what Wrap answered shares memory: %v, %q", again, whole)
	}
	kept := slices.Clone(again)
	clear(whole)
	if !bytes.Equal(again, kept) {
		t.Errorf("Wrap kept what was handed in: %v", again)
	}
	_, body, _, _ := frame.Take(again)
	_, other, _, _ := frame.Take(again)
	clear(body[:cap(body)])
	if string(other) != "hi" || !bytes.Equal(again, kept) {
		t.Errorf("what Take answered shares memory: %q, %v", other, again)
	}
	clear(again)
	if string(other) != "hi" {
		t.Errorf("Take kept what was handed in: %q", other)
	}
	checkNone(t, "a frame whose last byte lies behind the length", kept[:12], api.ErrShort)
	if sum := frame.Sum(kept[:5]); sum != wantSum(kept[:5:5]) || !bytes.Equal(kept, want(66, []byte("hi"))) {
		t.Errorf("Sum wrote, or read behind the length: %#x, %v", sum, kept)
	}
}

// P1, P2: each call ends, and answers the same again, whatever was asked between.
func TestSameAgain(t *testing.T) {
	first := map[string]string{}
	for range 2 {
		for n := range 30 {
			b := some(n)
			f, err := frame.Wrap(byte(n), b)
			told := fmt.Sprint(f, err, frame.Sum(b), tell(frame.Take(f)))
			for place := range f {
				told += tell(frame.Take(f[:place]))
				f[place]++
				told += tell(frame.Take(f))
			}
			asked := string(b)
			if before, ok := first[asked]; ok && before != told {
				t.Errorf("of %v: %s, then %s", b, before, told)
			}
			first[asked] = told
		}
	}
}

func tell(kind byte, body []byte, k int, err api.Errno) string {
	return fmt.Sprint(";", kind, body, k, err)
}

// P5.1, P5.2: whatever the bytes are, and so if their head is made right.
func FuzzTake(f *testing.F) {
	f.Add([]byte{83, 84, 66, 2, 0, 0, 0, 84, 58, 255, 206, 104, 105, 9})
	f.Add([]byte{83, 84, 66, 1, 0, 1})
	f.Add([]byte{83, 84})
	f.Add([]byte{})
	f.Fuzz(func(t *testing.T, b []byte) {
		checkTake(t, b)
		if len(b) < 11 {
			return
		}
		b = slices.Concat(head(b[2], uint32(b[3])), b[7:])
		checkTake(t, b)
		if size := 11 + int(b[3]); size <= len(b) {
			binary.LittleEndian.PutUint32(b[7:], wantSum(slices.Concat(b[2:7], b[11:size])))
			checkTake(t, b)
		}
	})
}

// P5.1 to P5.3: whatever the body is, what lies behind, and which byte is changed.
func FuzzWrap(f *testing.F) {
	f.Add(byte(66), []byte("hi"), []byte{9}, uint16(3), byte(1))
	f.Add(byte(0), []byte{}, []byte{}, uint16(0), byte(0))
	f.Fuzz(func(t *testing.T, kind byte, body, behind []byte, place uint16, change byte) {
		if len(body) > 65536 {
			return
		}
		if sum := frame.Sum(body); sum != wantSum(body) {
			t.Fatalf("Sum(%v): %#x", body, sum)
		}
		made := wrap(t, kind, body)
		checkTake(t, slices.Concat(made, behind))
		checkNone(t, "what breaks off", made[:int(place)%len(made)], api.ErrShort)
		if change != 0 {
			made[7+int(place)%(len(made)-7)] ^= change
			checkNone(t, "a bent frame", slices.Concat(made, behind), api.ErrFrame)
		}
	})
}
