package oplog_test

import (
	"bytes"
	"encoding/binary"
	"fmt"
	"hash/crc32"
	"maps"
	"slices"
	"testing"

	"stemma/api"
	"stemma/batch"
	"stemma/files"
	"stemma/oplog"
)

// op is the i-th operation, one of each kind in turn.
func op(i int) api.Op {
	o := api.Op{ID: api.Stamp{N: 10 + i, R: i % 8}, Deps: api.Vector{4, 0, 3, 8, 0, 0, 0, 2}}
	a, b := api.Stamp{N: 4}, api.Stamp{N: 2, R: 7}
	switch i % 6 {
	case 0:
		o.Kind, o.Ref, o.Side, o.Ch = api.Insert, a, api.Left, 'x'
	case 1:
		o.Kind, o.Side = api.Insert, api.Right
	case 2:
		o.Kind, o.Ref = api.Delete, b
	case 3:
		o.Kind, o.Ref, o.Under, o.Key = api.Move, b, a, "0a9"
	case 4:
		o.Kind, o.Ref, o.Name, o.Value = api.Set, a, "kind", "para"
	case 5:
		o.Kind, o.From, o.To, o.Name = api.Mark, api.Anchor{ID: a}, api.Anchor{ID: b, After: true}, "bold"
	}
	return o
}

// from are n operations, from the i-th on.
func from(i, n int) []api.Op {
	var l []api.Op
	for k := range n {
		l = append(l, op(i+k))
	}
	return l
}

// framed is a frame, put by hand.
func framed(kind byte, body []byte) []byte {
	head := binary.LittleEndian.AppendUint32([]byte{kind}, uint32(len(body)))
	sum := crc32.Checksum(append(head, body...), crc32.MakeTable(crc32.Castagnoli))
	return slices.Concat([]byte("ST"), head, binary.LittleEndian.AppendUint32(nil, sum), body)
}

// bodyOf is a batch.
func bodyOf(o []api.Op) []byte {
	b, e := batch.Encode(o)
	if e != api.OK {
		panic(fmt.Sprint("no batch: ", e))
	}
	return b
}

// fileOf is a log's file: a frame for each list.
func fileOf(frames ...[]api.Op) []byte {
	var b []byte
	for _, o := range frames {
		b = append(b, framed(66, bodyOf(o))...)
	}
	return b
}

// readFile is another reading of a log's file: the frames at its beginning, and what stands behind them.
func readFile(b []byte) ([][]api.Op, []byte) {
	var frames [][]api.Op
	for len(b) >= 11 {
		size := 11 + int(binary.LittleEndian.Uint32(b[3:7]))
		if size > min(len(b), 11+65536) || !bytes.Equal(b[:size], framed(66, b[11:size])) {
			break
		}
		o, e := batch.Decode(b[11:size])
		if e != api.OK || len(o) == 0 {
			break
		}
		frames = append(frames, o)
		b = b[size:]
	}
	return frames, b
}

// anew are the frames that a log's operations have when it is written anew.
func anew(all []api.Op) [][]api.Op {
	var frames [][]api.Op
	for len(all) > 200 {
		frames, all = append(frames, all[:200]), all[200:]
	}
	if len(all) > 0 {
		frames = append(frames, all)
	}
	return frames
}

type texts = map[string]string

// diskOf is a disk that has these files, all durable.
func diskOf(t *testing.T, has texts) *files.Disk {
	t.Helper()
	d := files.New()
	for _, name := range slices.Sorted(maps.Keys(has)) {
		if d.Make(name) != api.OK || d.Append(name, []byte(has[name])) != api.OK || d.Sync(name) != api.OK {
			t.Fatalf("no file %s of %d bytes", name, len(has[name]))
		}
	}
	d.SyncNames()
	return d.Cut(d.Changes(), 0, nil, 0)
}

// textsOf are a disk's files.
func textsOf(d *files.Disk) texts {
	has := texts{}
	for _, name := range d.Names() {
		b, _ := d.Read(name)
		has[name] = string(b)
	}
	return has
}

// durable is what a loss of power leaves at the least.
func durable(d *files.Disk) *files.Disk { return d.Cut(d.Changes(), 0, nil, 0) }

// told is all that a log and its disk answer of themselves. Whatever is done on a disk is one of its changes.
type told struct {
	changes, synced int
	ops             []api.Op
	files           texts
	pending         map[string]int
}

func tell(d *files.Disk, l *oplog.Log) told {
	pending := map[string]int{}
	for _, name := range d.Names() {
		pending[name] = d.Pending(name)
	}
	return told{d.Changes(), l.Synced(), l.Ops(), textsOf(d), pending}
}

func (a told) equal(b told) bool {
	return a.changes == b.changes && a.synced == b.synced && slices.Equal(a.ops, b.ops) && maps.Equal(a.files, b.files) && maps.Equal(a.pending, b.pending)
}

func (a told) String() string {
	return fmt.Sprintf("%d changes; %d operations, %d synced; %d files, pending %v", a.changes, len(a.ops), a.synced, len(a.files), a.pending)
}

// opened is the log on a disk.
func opened(t *testing.T, d *files.Disk) *oplog.Log {
	t.Helper()
	l, e := oplog.Open(d)
	if e != api.OK || l == nil {
		t.Fatalf("Open: %v, %v", l, e)
	}
	return l
}

// grown is a log on a disk behind some Appends, no Sync.
func grown(t *testing.T, appends ...[]api.Op) (*files.Disk, *oplog.Log) {
	t.Helper()
	d := files.New()
	l := opened(t, d)
	for _, o := range appends {
		ok(t, l.Append(o))
	}
	return d, l
}

// ok holds that a call answered OK.
func ok(t *testing.T, e api.Errno) {
	t.Helper()
	if e != api.OK {
		t.Fatalf("%v, not OK", e)
	}
}

// check holds that a log, and its file, have just these frames, and that the operations of the first so many are synced.
func check(t *testing.T, d *files.Disk, l *oplog.Log, frames [][]api.Op, synced int) {
	t.Helper()
	all, firsts := slices.Concat(frames...), slices.Concat(frames[:synced]...)
	if got := l.Ops(); !slices.Equal(got, all) {
		t.Fatalf("%d operations, not %d: %.999v", len(got), len(all), got)
	}
	if got := l.Synced(); got != len(firsts) {
		t.Fatalf("%d of %d are synced, not %d", got, len(all), len(firsts))
	}
	if b, e := d.Read("log"); !bytes.Equal(b, fileOf(frames...)) || e != api.OK {
		t.Fatalf("the file has %d bytes, not the %d of its frames, %v", len(b), len(fileOf(frames...)), e)
	}
	if slices.Contains(d.Names(), "new") {
		t.Fatalf("files %q", d.Names())
	}
	if b, e := durable(d).Read("log"); !bytes.Equal(b, fileOf(frames[:synced]...)) || e != api.OK {
		t.Fatalf("%d bytes of the file are durable, not %d, %v", len(b), len(fileOf(frames[:synced]...)), e)
	}
	if got := d.Pending("log"); got != len(frames)-synced {
		t.Fatalf("%d Appends are not durable, not %d", got, len(frames)-synced)
	}
}

// checkOpen holds that the log that is opened has just these frames, all synced, and that it goes on from there.
func checkOpen(t *testing.T, d *files.Disk, frames ...[]api.Op) {
	t.Helper()
	l := opened(t, d)
	check(t, d, l, frames, len(frames))
	further := append(slices.Clone(frames), from(700, 2))
	ok(t, l.Append(further[len(frames)]))
	check(t, d, l, further, len(frames))
	ok(t, l.Sync())
	check(t, d, l, further, len(further))
	check(t, d, opened(t, d), further, len(further))
}

// L1 (P9.1): there is no file `log`.
func TestOpenNone(t *testing.T) {
	d := files.New()
	l := opened(t, d)
	check(t, d, l, nil, 0)
	if got := textsOf(durable(d)); !maps.Equal(got, texts{"log": ""}) {
		t.Errorf("durable: %.300q", got)
	}
	checkOpen(t, files.New())
	checkOpen(t, diskOf(t, texts{"a": "x", "lo": "y", "logs": "z"}))
	d = files.New()
	d.Make("log")
	d.Remove("log")
	checkOpen(t, d)
}

// L1 (P9.1): the file `log` has no byte, or is right to its end: it stays, and it and its name are durable then.
func TestOpenRight(t *testing.T) {
	checkOpen(t, diskOf(t, texts{"log": ""}))
	for _, frames := range [][][]api.Op{
		{from(0, 1)}, {from(0, 6)}, {from(0, 200)}, {from(0, 2), from(2, 1), from(3, 7)}, {from(0, 200), from(200, 1), from(201, 200)},
		{from(3, 1), from(3, 1), from(0, 4)}, // the log does not ask which these are
	} {
		checkOpen(t, diskOf(t, texts{"log": string(fileOf(frames...)), "a": "x"}), frames...)

		d := files.New()
		d.Make("log")
		for _, o := range frames {
			d.Append("log", fileOf(o))
		}
		before := d.Changes()
		check(t, d, opened(t, d), frames, len(frames))
		for at := before; at <= d.Changes(); at++ {
			if left := textsOf(d.Cut(at, 9, nil, 0)); len(left) > 1 || left["new"] != "" {
				t.Errorf("a right file is written anew: %.300q", left)
			}
		}
	}
}

// L1 (P9.1): the last frame is cut short at each byte, with each of its bytes changed, or with more behind it.
func TestOpenTorn(t *testing.T) {
	for _, first := range [][][]api.Op{nil, {from(0, 1)}, {from(0, 1), from(1, 3)}} {
		good := fileOf(first...)
		last := fileOf(from(4, 2))
		for i := range last {
			checkOpen(t, diskOf(t, texts{"log": string(good) + string(last[:i])}), first...)
			changed := bytes.Clone(last)
			changed[i]++
			checkOpen(t, diskOf(t, texts{"log": string(good) + string(changed)}), first...)
		}
		for _, more := range []string{"\x00", "S", "ST", "x", "junk", "STB", string(make([]byte, 5000)), string(last[:len(last)-1]) + "\x00", "\x00" + string(last)} {
			checkOpen(t, diskOf(t, texts{"log": string(good) + more}), first...)
			checkOpen(t, diskOf(t, texts{"log": string(good) + string(last) + more}), append(slices.Clone(first), from(4, 2))...)
		}
	}
}

// alike is a batch of n times one operation: of more than MaxBatch, too.
func alike(n uint64) []byte {
	b := binary.AppendUvarint(nil, n)
	deltas := func(v byte) {
		b = append(b, 1, 2*v)
		if n > 1 {
			b = append(binary.AppendUvarint(b, n-1), 0)
		}
	}
	runs := func(v ...byte) {
		for _, v := range v {
			b = append(binary.AppendUvarint(b, n), 2*v)
		}
	}
	deltas(1)
	runs(0)
	for range 8 {
		b = append(binary.AppendUvarint(b, n), 0)
	}
	runs(1)
	b = append(binary.AppendUvarint(b, n), 0)
	runs(0, 2, 60, 0, 0, 0, 0, 0, 0)
	b = binary.AppendUvarint(b, n)
	b = binary.AppendUvarint(b, n)
	runs(0, 0, 0)
	return b
}

// L1 (P9.1): a frame whose kind is not 66, or whose body is no batch, or one of no operations, or of too many, ends the
// log, whatever is behind it.
func TestOpenWrongFrame(t *testing.T) {
	first := [][]api.Op{from(0, 2), from(2, 1)}
	same := api.Op{ID: api.Stamp{N: 1}, Kind: api.Insert, Side: api.Right, Ch: 60}
	checkOpen(t, diskOf(t, texts{"log": string(framed(66, alike(200)))}), slices.Repeat([]api.Op{same}, 200))

	var wrong [][]byte
	for kind := range 256 {
		if kind != 66 {
			wrong = append(wrong, framed(byte(kind), bodyOf(from(3, 2))))
		}
	}
	body := bodyOf(from(3, 2))
	for _, b := range [][]byte{nil, {0}, {1}, {0, 0}, []byte("junk"), body[1:], body[:len(body)-1], append(bytes.Clone(body), 0), alike(201), make([]byte, 65536)} {
		wrong = append(wrong, framed(66, b))
	}
	huge := framed(66, make([]byte, 65537)) // longer than a frame may be
	wrong = append(wrong, huge, []byte("x"), make([]byte, 11))
	for _, w := range wrong {
		for _, behind := range [][]byte{nil, []byte("junk"), fileOf(from(5, 1)), fileOf(from(5, 3), from(8, 1))} {
			for n := range 3 {
				file := slices.Concat(fileOf(first[:n]...), w, behind)
				checkOpen(t, diskOf(t, texts{"log": string(file)}), first[:n]...)
			}
		}
	}
}

// L1 (P9.1): a file `new` of whatever bytes, with and without a file `log`, counts for nothing and is gone.
func TestOpenNew(t *testing.T) {
	frames := [][]api.Op{from(0, 2), from(2, 1)}
	good := string(fileOf(frames...))
	for _, other := range []string{"", "x", "junk", good, string(fileOf(from(0, 3))), string(fileOf(from(0, 9))), string(fileOf(from(0, 3))[:40])} {
		checkOpen(t, diskOf(t, texts{"new": other}))
		checkOpen(t, diskOf(t, texts{"new": other, "log": ""}))
		checkOpen(t, diskOf(t, texts{"new": other, "log": good}), frames...)
		checkOpen(t, diskOf(t, texts{"new": other, "log": good + "junk"}), frames...)
		checkOpen(t, diskOf(t, texts{"new": other, "log": good[:len(good)-1]}), frames[:1]...)
		checkOpen(t, diskOf(t, texts{"new": other, "log": "junk"}))
	}
	d := diskOf(t, texts{"new": "x", "a": "1", "b": "2"})
	opened(t, d)
	if got := textsOf(durable(d)); !maps.Equal(got, texts{"log": "", "a": "1", "b": "2"}) {
		t.Errorf("durable: %.300q", got)
	}
}

// L2 (P9.1): Append, by one append to the file; Sync; Ops; Synced.
func TestAppend(t *testing.T) {
	d := diskOf(t, texts{"a": "x"})
	l := opened(t, d)
	var frames [][]api.Op
	synced := 0
	for i, n := range []int{1, 6, 200, 2, 199, 1, 1} {
		frames = append(frames, from(10*i, n))
		changes := d.Changes()
		ok(t, l.Append(frames[i]))
		check(t, d, l, frames, synced)
		if d.Changes() != changes+1 {
			t.Errorf("Append made %d changes", d.Changes()-changes)
		}
		if i%3 == 2 {
			changes, synced = d.Changes(), len(frames)
			ok(t, l.Sync())
			check(t, d, l, frames, synced)
			if d.Changes() != changes+1 {
				t.Errorf("Sync made %d changes", d.Changes()-changes)
			}
		}
	}
	ok(t, l.Sync())
	ok(t, l.Sync())
	check(t, d, l, frames, len(frames))
	if got, _ := d.Read("a"); string(got) != "x" {
		t.Errorf("another file: %q", got)
	}
}

// L2 (P9.1): operations of each kind, alone and together, come back as they were.
func TestEachKind(t *testing.T) {
	var frames [][]api.Op
	for i := range 6 {
		frames = append(frames, from(i, 1), from(i, 6))
	}
	frames = append(frames, []api.Op{op(5), op(5), op(0), op(3)}) // in the order in which they stand
	d, l := grown(t, frames...)
	check(t, d, l, frames, 0)
	check(t, d, opened(t, d), frames, len(frames))
	ok(t, l.Compact())
	check(t, d, opened(t, d), anew(slices.Concat(frames...)), 1)
}

// L3 (P9.1): Compact, of none, of as many as are in one frame, in two, and more; nothing else changes.
func TestCompact(t *testing.T) {
	for _, sizes := range [][]int{nil, {1}, {200}, {1, 1}, {199, 1}, {1, 200}, {100, 101}, {200, 200}, {150, 150, 100}, {1, 199, 200, 3}, {200, 200, 200}, {60, 60, 60, 60, 60, 60, 60}} {
		var frames [][]api.Op
		for i, n := range sizes {
			frames = append(frames, from(7*i, n))
		}
		for synced := range len(sizes) + 1 {
			for _, with := range []texts{{}, {"a": "x"}, {"a": "x", "b": "", "c": "", "d": "", "e": "", "f": "y"}} {
				d := diskOf(t, with)
				l := opened(t, d)
				for i, o := range frames {
					if i == synced {
						ok(t, l.Sync())
					}
					ok(t, l.Append(o))
				}
				want := anew(slices.Concat(frames...))
				for range 2 {
					ok(t, l.Compact())
					check(t, d, l, want, len(want))
				}
				with["log"] = string(fileOf(want...))
				if got := textsOf(d); !maps.Equal(got, with) {
					t.Errorf("files behind Compact: %q", d.Names())
				}
				further := append(want, from(3, 4))
				ok(t, l.Append(further[len(want)]))
				check(t, d, l, further, len(want))
				check(t, d, opened(t, d), further, len(further))
			}
		}
	}
}

// L3 (P9.1): an elder file `new` is removed first.
func TestCompactElder(t *testing.T) {
	for _, elder := range []string{"", "junk", string(fileOf(from(5, 5)))} {
		d, l := grown(t, from(0, 2), from(2, 2))
		d.Make("new")
		d.Append("new", []byte(elder))
		d.Sync("new")
		d.SyncNames()
		before := d.Changes()
		ok(t, l.Compact())
		check(t, d, l, [][]api.Op{from(0, 4)}, 1)
		if got := d.Cut(before+1, 1, nil, 0).Names(); !slices.Equal(got, []string{"log"}) {
			t.Errorf("behind the first step of Compact there may be %q", got)
		}
	}
}

// L3, L1 (P9.1): what is written anew is durable, and so is its name, ahead of being renamed; that is, too, then.
func TestStepsAnew(t *testing.T) {
	frames := [][]api.Op{from(0, 2), from(2, 1), from(3, 2)}
	whole := string(fileOf(frames...))
	one := string(fileOf(from(0, 5)))
	d, l := grown(t, frames...)
	ok(t, l.Compact())
	checkSteps(t, d, "", one)
	d, l = grown(t, frames[:2]...)
	ok(t, l.Sync())
	ok(t, l.Append(frames[2]))
	ok(t, l.Compact())
	checkSteps(t, d, string(fileOf(frames[:2]...)), one)

	for _, with := range []texts{{"log": whole + "junk"}, {"log": whole, "new": "elder"}, {"log": whole + "S", "new": ""}} {
		d = diskOf(t, with)
		opened(t, d)
		checkSteps(t, d, with["log"], whole)
	}
}

// checkSteps holds that a disk's last calls were SyncNames, Rename and SyncNames, and what was durable at each of them.
func checkSteps(t *testing.T, d *files.Disk, was, is string) {
	t.Helper()
	at := d.Changes()
	for i, want := range []texts{{"log": is}, {"log": was, "new": is}, {"log": was, "new": is}} {
		if got := textsOf(d.Cut(at-i, 0, nil, 0)); !maps.Equal(got, want) {
			t.Errorf("%d calls ahead of the end is durable: %q, not %q", i, got, want)
		}
	}
	if got := textsOf(d.Cut(at-1, 1, nil, 0)); !maps.Equal(got, texts{"log": is}) {
		t.Errorf("behind the renaming there is %q", got)
	}
	if got := textsOf(d.Cut(at-3, 0, nil, 0)); got["log"] != was {
		t.Errorf("ahead of SyncNames there is %q", got)
	}
}

// L1, L3 (P9.1): Opens, Syncs and Compacts behind one another on one disk.
func TestAgain(t *testing.T) {
	d := files.New()
	var frames [][]api.Op
	for i := range 12 {
		l := opened(t, d)
		check(t, d, l, frames, len(frames))
		synced := len(frames)
		frames = append(frames, from(i, 1+i%3))
		ok(t, l.Append(frames[len(frames)-1]))
		check(t, d, l, frames, synced)
		switch i % 4 {
		case 0:
			ok(t, l.Sync())
			check(t, d, l, frames, len(frames))
		case 1:
			ok(t, l.Compact())
			frames = anew(slices.Concat(frames...))
			check(t, d, l, frames, len(frames))
		case 2:
			d = d.Cut(d.Changes(), 0, []bool{true}, len(fileOf(frames[len(frames)-1])))
		}
	}
}

// Rule 4: what is handed in stays, and is not kept; what lies behind it is not looked at.
func TestHandedIn(t *testing.T) {
	whole := from(0, 9)
	d, l := grown(t, whole[:3], whole[3:4])
	ok(t, l.Append(whole[4:6]))
	ok(t, l.Compact())
	if !slices.Equal(whole, from(0, 9)) {
		t.Error("what was handed in was written into")
	}
	clear(whole)
	check(t, d, l, [][]api.Op{from(0, 6)}, 1)
}

// Rule 4: what is answered is new memory.
func TestAnswered(t *testing.T) {
	d, l := grown(t, from(0, 3))
	held, other := l.Ops(), l.Ops()
	clear(other[:cap(other)])
	ok(t, l.Append(from(3, 2)))
	more := l.Ops()
	clear(more[:cap(more)])
	if !slices.Equal(held, from(0, 3)) {
		t.Error("two answers share memory")
	}
	check(t, d, l, [][]api.Op{from(0, 3), from(3, 2)}, 0)
	ok(t, l.Compact())
	check(t, d, l, [][]api.Op{from(0, 5)}, 1)
	spare := append(l.Ops(), op(77))
	ok(t, l.Append(from(5, 1)))
	if got := l.Ops(); spare[5] != op(77) || got[5] != op(5) {
		t.Error("what is put behind an answer is shared")
	}
}

// P2: logs on disks of their own know nothing of each other, and the same calls answer the same.
func TestApart(t *testing.T) {
	d, l := grown(t, from(0, 3))
	c, m := grown(t, from(0, 3))
	if !tell(d, l).equal(tell(c, m)) {
		t.Error("the same calls answer otherwise")
	}
	ok(t, m.Append(from(9, 1)))
	ok(t, l.Sync())
	check(t, d, l, [][]api.Op{from(0, 3)}, 1)
	check(t, c, m, [][]api.Op{from(0, 3), from(9, 1)}, 0)
	left := d.Cut(d.Changes(), 0, nil, 0)
	n := opened(t, left)
	ok(t, l.Compact())
	ok(t, n.Append(from(4, 1)))
	check(t, left, n, [][]api.Op{from(0, 3), from(4, 1)}, 1)
	check(t, d, l, [][]api.Op{from(0, 3)}, 1)
}
