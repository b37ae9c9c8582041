package oplog_test

import (
	"bytes"
	"maps"
	"slices"
	"strings"
	"sync"
	"testing"

	"stemma/api"
	"stemma/files"
	"stemma/oplog"
)

// checkRefused holds that a call answers an error and changes nothing: neither the log nor its disk.
func checkRefused(t *testing.T, d *files.Disk, l *oplog.Log, want api.Errno, call func() api.Errno) {
	t.Helper()
	before := tell(d, l)
	if e := call(); e != want {
		t.Errorf("%v, not %v", e, want)
	}
	if after := tell(d, l); !after.equal(before) {
		t.Errorf("what was refused changed something: %v, not %v", after, before)
	}
}

// checkNoOpen holds that a disk's log is not opened, and that this changes nothing.
func checkNoOpen(t *testing.T, d *files.Disk) {
	t.Helper()
	checkRefused(t, d, nil, api.ErrFileFull, func() api.Errno {
		l, e := oplog.Open(d)
		if l != nil {
			t.Error("a log beside an error")
		}
		return e
	})
}

// wrongOps are operations that are not right.
func wrongOps() []api.Op {
	wrong := []api.Op{{}, {ID: api.Stamp{N: 1}, Kind: api.Insert, Side: api.Right, Ch: 31}}
	for i := range 6 {
		for _, change := range []func(*api.Op){
			func(o *api.Op) { o.ID.R = 8 },
			func(o *api.Op) { o.ID.N = api.MaxCounter + 1 },
			func(o *api.Op) { o.Deps[1] = -1 },
			func(o *api.Op) { o.Kind = 6 },
			func(o *api.Op) { o.Name += "A" },
		} {
			o := op(i)
			change(&o)
			wrong = append(wrong, o)
		}
	}
	return wrong
}

// Rule 8, P1: a nil disk, a nil log.
func TestNil(t *testing.T) {
	if l, e := oplog.Open(nil); l != nil || e != api.ErrArg {
		t.Errorf("Open of no disk: %v, %v", l, e)
	}
	var l *oplog.Log
	for _, o := range [][]api.Op{nil, {}, {op(0)}, {{}}, from(0, 200), from(0, 201)} {
		if e := l.Append(o); e != api.ErrArg {
			t.Errorf("Append of %d on a nil log: %v", len(o), e)
		}
	}
	if e, f := l.Sync(), l.Compact(); e != api.ErrArg || f != api.ErrArg {
		t.Errorf("Sync and Compact on a nil log: %v, %v", e, f)
	}
	if o, n := l.Ops(), l.Synced(); len(o) != 0 || n != 0 {
		t.Errorf("Ops and Synced of a nil log: %v, %d", o, n)
	}
}

// A log that no call gave panics neither.
func TestZeroLog(t *testing.T) {
	l := new(oplog.Log)
	for range 2 {
		if l.Append(from(0, 1)) != api.ErrArg || l.Append(nil) != api.ErrArg || l.Sync() != api.ErrArg || l.Compact() != api.ErrArg || len(l.Ops()) != 0 || l.Synced() != 0 {
			t.Errorf("a log that no call gave: %v, %d", l.Ops(), l.Synced())
		}
	}
}

// L2 (P9.1): no operations, MaxBatch, more; one that is not right at each place; what is told first.
func TestAppendWrong(t *testing.T) {
	d, l := grown(t, from(0, 2))
	ok(t, l.Sync())
	ok(t, l.Append(from(2, 1)))
	refuse := func(o []api.Op, want api.Errno) {
		t.Helper()
		checkRefused(t, d, l, want, func() api.Errno { return l.Append(o) })
	}
	refuse(nil, api.ErrArg)
	refuse([]api.Op{}, api.ErrArg)
	for _, n := range []int{201, 202, 400, 1000} {
		refuse(from(0, n), api.ErrArg)
		refuse(make([]api.Op, n), api.ErrArg)
	}
	for _, o := range wrongOps() {
		refuse([]api.Op{o}, api.ErrOp)
		for _, n := range []int{3, 200} {
			for _, i := range []int{0, n / 2, n - 1} {
				l := from(0, n)
				l[i] = o
				refuse(l, api.ErrOp)
			}
		}
		long := from(0, 201)
		long[100] = o
		refuse(long, api.ErrArg)
	}
	check(t, d, l, [][]api.Op{from(0, 2), from(2, 1)}, 1)
	ok(t, l.Append(from(3, 200)))
	check(t, d, l, [][]api.Op{from(0, 2), from(2, 1), from(3, 200)}, 1)

	d.Remove("log")
	refuse(nil, api.ErrArg)
	refuse(from(0, 201), api.ErrArg)
	refuse([]api.Op{{}}, api.ErrOp)
}

// L2, L3 (P9.1): somebody has taken the file away.
func TestTakenAway(t *testing.T) {
	for _, away := range []func(*files.Disk) api.Errno{
		func(d *files.Disk) api.Errno { return d.Remove("log") },
		func(d *files.Disk) api.Errno { return d.Rename("log", "gol") },
	} {
		d, l := grown(t, from(0, 2))
		ok(t, l.Sync())
		ok(t, l.Append(from(2, 3)))
		ok(t, away(d))
		for range 2 {
			checkRefused(t, d, l, api.ErrFileNone, func() api.Errno { return l.Append(from(5, 1)) })
			checkRefused(t, d, l, api.ErrFileNone, l.Sync)
		}
		if l.Synced() != 2 || !slices.Equal(l.Ops(), from(0, 5)) {
			t.Errorf("%d of %d are synced", l.Synced(), len(l.Ops()))
		}
		ok(t, l.Compact()) // it needs no elder one
		check(t, d, l, [][]api.Op{from(0, 5)}, 1)
		ok(t, l.Append(from(5, 1)))
		ok(t, l.Sync())
		check(t, d, l, [][]api.Op{from(0, 5), from(5, 1)}, 2)

		ok(t, away(d))
		checkRefused(t, d, l, api.ErrFileNone, l.Sync)
		check(t, d, opened(t, d), nil, 0)
	}
	d, l := grown(t)
	d.Remove("log")
	ok(t, l.Compact())
	check(t, d, l, nil, 0)
}

// others are so many files that are no log's.
func others(n int) texts {
	has := texts{}
	for i := range n {
		has[strings.Repeat(string(rune('a'+i)), 1+i%3)] = strings.Repeat("x", i)
	}
	return has
}

// and are files and one more.
func and(has texts, name, text string) texts {
	has = maps.Clone(has)
	has[name] = text
	return has
}

// L1 (P9.1): Open, where the disk has MaxFiles files, one fewer, and two fewer.
func TestOpenFull(t *testing.T) {
	good := string(fileOf(from(0, 2)))
	checkNoOpen(t, diskOf(t, others(8)))
	checkOpen(t, diskOf(t, others(7)))
	checkOpen(t, diskOf(t, others(6)))
	checkOpen(t, diskOf(t, and(others(7), "new", good))) // it goes, so there is room
	checkOpen(t, diskOf(t, and(others(6), "new", good)))
	for _, n := range []int{7, 6, 5} {
		checkOpen(t, diskOf(t, and(others(n), "log", good)), from(0, 2))
		checkOpen(t, diskOf(t, and(others(n), "log", "")))
	}
	for _, more := range []string{"x", "ST", good[:len(good)-1]} {
		checkNoOpen(t, diskOf(t, and(others(7), "log", good+more)))
		checkNoOpen(t, diskOf(t, and(others(7), "log", more)))
		checkOpen(t, diskOf(t, and(others(6), "log", good+more)), from(0, 2))
		checkOpen(t, diskOf(t, and(and(others(6), "new", more), "log", good+more)), from(0, 2))
		checkOpen(t, diskOf(t, and(and(others(6), "new", more), "log", good)), from(0, 2))
		checkOpen(t, diskOf(t, and(and(others(6), "new", more), "log", more)))
	}
	d := diskOf(t, and(others(7), "log", good+"x"))
	checkNoOpen(t, d)
	d.Remove("a")
	checkOpen(t, d, from(0, 2))
}

// L2, L3 (P9.1): Append, Sync and Compact, where the disk has MaxFiles files, one fewer, and none.
func TestCallsFull(t *testing.T) {
	for n := range 8 {
		d := diskOf(t, others(n))
		l := opened(t, d)
		ok(t, l.Append(from(0, 2)))
		ok(t, l.Sync())
		ok(t, l.Append(from(2, 1)))
		if n == 7 {
			for range 2 {
				checkRefused(t, d, l, api.ErrFileFull, l.Compact)
			}
			check(t, d, l, [][]api.Op{from(0, 2), from(2, 1)}, 1)
			d.Remove("a")
		}
		ok(t, l.Compact())
		check(t, d, l, [][]api.Op{from(0, 3)}, 1)
	}
	d := diskOf(t, others(6))
	l := opened(t, d)
	ok(t, l.Append(from(0, 3)))
	d.Make("new") // an elder one makes room
	ok(t, l.Compact())
	check(t, d, l, [][]api.Op{from(0, 3)}, 1)

	d = diskOf(t, others(7))
	l = opened(t, d)
	ok(t, l.Append(from(0, 3)))
	d.Remove("log")
	ok(t, l.Compact())
	check(t, d, l, [][]api.Op{from(0, 3)}, 1)
	d.Remove("log")
	d.Make("h")
	checkRefused(t, d, l, api.ErrFileFull, l.Compact)
	checkRefused(t, d, l, api.ErrFileNone, l.Sync)
	checkNoOpen(t, d)
}

// setting are n operations that are alike but for a value, the last one's.
func setting(n, length int) []api.Op {
	o := api.Op{ID: api.Stamp{N: 9}, Deps: api.Vector{8}, Kind: api.Set, Ref: api.Stamp{N: 8}, Name: "abcdefgh", Value: strings.Repeat("v", 16)}
	l := slices.Repeat([]api.Op{o}, n)
	l[n-1].Value = o.Value[:length]
	return l
}

// ends are some frames by their lengths.
var ends = sync.OnceValue(func() map[int][]api.Op {
	frames := map[int][]api.Op{}
	for n := 1; n <= 200; n++ {
		for length := range 17 {
			o := setting(n, length)
			frames[len(fileOf(o))] = o
		}
	}
	return frames
})

// exactly are frames that are so many bytes long.
func exactly(t *testing.T, size int) [][]api.Op {
	t.Helper()
	var frames [][]api.Op
	whole := setting(200, 16)
	for one := len(fileOf(whole)); size > 2*one; size -= one {
		frames = append(frames, whole)
	}
	for _, first := range slices.Sorted(maps.Keys(ends())) {
		if last, there := ends()[size-first]; there {
			return append(frames, ends()[first], last)
		}
	}
	t.Fatalf("no frames of %d bytes", size)
	return nil
}

// full is a disk with a log whose file is so many bytes short of being as long as it may.
func full(t *testing.T, short int, first ...[]api.Op) (*files.Disk, *oplog.Log, [][]api.Op) {
	t.Helper()
	frames := append(first, exactly(t, 1<<20-short-len(fileOf(first...)))...)
	d, l := grown(t, frames...)
	check(t, d, l, frames, 0)
	if b, _ := d.Read("log"); len(b) != 1<<20-short {
		t.Fatalf("%d bytes", len(b))
	}
	return d, l, frames
}

// L1, L2, L3 (P9.1): a file that is as long as MaxFile allows, or nearly so.
func TestMaxFile(t *testing.T) {
	last := from(5, 3)
	for _, short := range []int{0, 1, len(fileOf(last)) - 1} {
		d, l, frames := full(t, short)
		checkRefused(t, d, l, api.ErrFileFull, func() api.Errno { return l.Append(last) })
		ok(t, l.Sync())
		checkRefused(t, d, l, api.ErrFileFull, func() api.Errno { return l.Append(last) })
		checkRefused(t, d, l, api.ErrOp, func() api.Errno { return l.Append([]api.Op{{}}) })
		check(t, d, l, frames, len(frames))
		check(t, d, opened(t, d), frames, len(frames))
	}
	for _, short := range []int{len(fileOf(last)), len(fileOf(last)) + 1} {
		d, l, frames := full(t, short)
		ok(t, l.Append(last))
		frames = append(frames, last)
		check(t, d, l, frames, 0)
		checkRefused(t, d, l, api.ErrFileFull, func() api.Errno { return l.Append(last) })
		check(t, d, opened(t, d), frames, len(frames))
		want := anew(slices.Concat(frames...))
		ok(t, l.Compact())
		check(t, d, l, want, len(want))
	}
	for _, more := range []int{1, 12, 5000} { // and with what is no frame at its end
		d, _, frames := full(t, more)
		d.Append("log", bytes.Repeat([]byte("S"), more))
		d.Make("new")
		check(t, d, opened(t, d), frames, len(frames))
	}
}

// long are frames that written anew are longer: each new one has two kinds of operations.
func long() [][]api.Op {
	var frames [][]api.Op
	for i := range 7 {
		n := 200
		if i == 0 || i == 6 {
			n = 100
		}
		frames = append(frames, slices.Repeat([]api.Op{op(i)}, n))
	}
	return frames
}

// L3 (P9.1): there is no room for the bytes of the file anew.
func TestCompactTooLong(t *testing.T) {
	grows := len(fileOf(anew(slices.Concat(long()...))...)) - len(fileOf(long()...))
	if grows < 10 {
		t.Fatalf("written anew they grow by %d", grows)
	}
	for _, short := range []int{0, grows - 1, grows, grows + 1} {
		d, l, frames := full(t, short, long()...)
		want := anew(slices.Concat(frames...))
		if len(fileOf(want...)) > 1<<20 {
			for range 2 {
				checkRefused(t, d, l, api.ErrFileFull, l.Compact)
			}
			d.Make("new")
			d.Append("new", []byte("elder"))
			if e := l.Compact(); e != api.ErrFileFull {
				t.Errorf("Compact: %v", e)
			}
			check(t, d, l, frames, 0)
			ok(t, l.Sync())
			if e := l.Compact(); e != api.ErrFileFull {
				t.Errorf("Compact: %v", e)
			}
			check(t, d, l, frames, len(frames))
			check(t, d, opened(t, d), frames, len(frames))
			continue
		}
		ok(t, l.Compact())
		check(t, d, l, want, len(want))
		check(t, d, opened(t, d), want, len(want))
	}
}

// P1: disks and files of whatever size: each call ends.
func TestLong(t *testing.T) {
	var frames [][]api.Op
	size := 0
	for i := 0; size < 1<<20-200; i++ {
		frames = append(frames, from(i, 1))
		size += len(fileOf(frames[i]))
	}
	d := diskOf(t, texts{"log": string(fileOf(frames...))})
	l := opened(t, d)
	check(t, d, l, frames, len(frames))
	ok(t, l.Compact())
	want := anew(slices.Concat(frames...))
	check(t, d, l, want, len(want))
	for _, b := range [][]byte{make([]byte, 1<<20), bytes.Repeat([]byte("ST"), 1<<19), bytes.Repeat([]byte("STB\x00"), 1<<18), bytes.Repeat([]byte{255}, 1<<20), bytes.Repeat(framed(66, nil), 90000)} {
		d := diskOf(t, texts{"log": string(b), "new": string(b)})
		check(t, d, opened(t, d), nil, 0)
	}
}
