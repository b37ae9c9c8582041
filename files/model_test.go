package files_test

import (
	"bytes"
	"fmt"
	"maps"
	"math/rand/v2"
	"slices"
	"strings"
	"testing"

	"stemma/api"
	"stemma/files"
)

// call is one call that Changes may count.
type call struct {
	what        string
	name, other string // other: the new name, or the bytes
}

func making(name string) call           { return call{"make", name, ""} }
func appending(name, bytes string) call { return call{"append", name, bytes} }
func syncing(name string) call          { return call{"sync", name, ""} }
func renaming(old, name string) call    { return call{"rename", old, name} }
func removing(name string) call         { return call{"remove", name, ""} }
func syncingNames() call                { return call{"names", "", ""} }
func (c call) String() string           { return c.what + " " + c.name + " " + c.other }
func script(calls ...call) []call       { return calls }
func keeping(keep ...bool) []bool       { return keep }

// on makes the call on a disk.
func (c call) on(d *files.Disk) api.Errno {
	switch c.what {
	case "make":
		return d.Make(c.name)
	case "append":
		return d.Append(c.name, []byte(c.other))
	case "sync":
		return d.Sync(c.name)
	case "rename":
		return d.Rename(c.name, c.other)
	case "remove":
		return d.Remove(c.name)
	}
	return d.SyncNames()
}

// book is the chapter read word by word: the calls that were OK, each with the number of the file that it was about.
type book struct {
	names map[string]int
	size  map[int]int
	calls []call
	about []int
}

func newBook() *book { return &book{map[string]int{}, map[int]int{}, nil, nil} }

func isName(s string) bool {
	return s != "" && len(s) <= 8 && strings.Trim(s, "abcdefghijklmnopqrstuvwxyz") == ""
}

// answer is what D1 says that a call answers.
func (m *book) answer(c call) api.Errno {
	id, there := m.names[c.name]
	switch {
	case c.what == "names":
		return api.OK
	case c.what == "make" && !isName(c.name), c.what == "rename" && !isName(c.other):
		return api.ErrFileName
	case c.what == "make" && there:
		return api.ErrArg
	case c.what == "make" && len(m.names) == 8:
		return api.ErrFileFull
	case c.what != "make" && !there:
		return api.ErrFileNone
	case c.what == "append" && m.size[id]+len(c.other) > 1048576:
		return api.ErrFileFull
	}
	return api.OK
}

// take does a call.
func (m *book) take(c call) api.Errno {
	if err := m.answer(c); err != api.OK {
		return err
	}
	id, there := m.names[c.name]
	if !there {
		id = len(m.calls) // no other file was made at this call
	}
	m.calls, m.about = append(m.calls, c), append(m.about, id)
	if c.what == "append" {
		m.size[id] += len(c.other)
	}
	rename(m.names, c, id)
	return api.OK
}

// rename does to names what a call does to them.
func rename(names map[string]int, c call, id int) {
	switch c.what {
	case "make":
		names[c.name] = id
	case "remove":
		delete(names, c.name)
	case "rename":
		delete(names, c.name)
		names[c.other] = id
	}
}

// modulo is a number counted modulo another one, one below 0 as -(n + 1).
func modulo(n, of int) int {
	if n < 0 {
		return int(uint64(^n) % uint64(of))
	}
	return int(uint64(n) % uint64(of))
}

// cut is what D2 says is left: the files' bytes by their names.
func (m *book) cut(at, names int, keep []bool, torn int) map[string]string {
	at = modulo(at, len(m.calls)+1)
	synced := 0
	var others []int
	for i, c := range m.calls[:at] {
		if c.what == "names" {
			synced, others = i, nil
		} else if slices.Contains([]string{"make", "rename", "remove"}, c.what) {
			others = append(others, i)
		}
	}
	there := map[string]int{}
	for i, c := range m.calls[:synced] {
		rename(there, c, m.about[i])
	}
	for _, i := range others[:modulo(names, len(others)+1)] {
		rename(there, m.calls[i], m.about[i])
	}
	left := map[string]string{}
	for name, id := range there {
		left[name] = m.bytesLeft(id, at, keep, torn)
	}
	return left
}

// bytesLeft is what is left of one file.
func (m *book) bytesLeft(id, at int, keep []bool, torn int) string {
	text := ""
	var others []string
	for i, c := range m.calls[:at] {
		if m.about[i] != id {
			continue
		}
		if c.what == "append" {
			others = append(others, c.other)
		} else if c.what == "sync" {
			text += strings.Join(others, "")
			others = nil
		}
	}
	last := -1
	for i := range min(len(others), len(keep)) {
		if keep[i] {
			last = i
		}
	}
	for i, other := range others[:last+1] {
		switch {
		case i == last:
			text += other[:modulo(torn, len(other)+1)]
		case keep[i]:
			text += other
		default:
			text += strings.Repeat("\x00", len(other))
		}
	}
	return text
}

// bytesNow are a file's bytes, as if all were kept, and pending is how many appends are not durable.
func (m *book) bytesNow(id int) (string, int) {
	text, pending := "", 0
	for i, c := range m.calls {
		if m.about[i] == id && c.what == "append" {
			text += c.other
			pending++
		} else if m.about[i] == id && c.what == "sync" {
			pending = 0
		}
	}
	return text, pending
}

// tell is all that a disk answers of itself.
func tell(d *files.Disk) string {
	told := fmt.Sprint(d.Changes())
	for _, name := range d.Names() {
		b, err := d.Read(name)
		told += fmt.Sprintf("; %s %d %q %v", name, d.Pending(name), b, err)
	}
	return told
}

// checkFiles holds a disk's files against what is wanted.
func checkFiles(t *testing.T, d *files.Disk, want map[string]string, what ...any) {
	t.Helper()
	if d == nil {
		t.Fatalf("no disk, %v", what)
	}
	if got := d.Names(); !slices.Equal(got, slices.Sorted(maps.Keys(want))) {
		t.Fatalf("names %q, not %q, %v", got, slices.Sorted(maps.Keys(want)), what)
	}
	for name, text := range want {
		if b, err := d.Read(name); string(b) != text || err != api.OK {
			t.Fatalf("file %s: %.80q, %v; not %.80q, %v", name, b, err, text, what)
		}
	}
}

// checkNew holds that a disk has just these files, all durable, and counts no change.
func checkNew(t *testing.T, d *files.Disk, want map[string]string, what ...any) {
	t.Helper()
	checkFiles(t, d, want, what)
	if d.Changes() != 0 {
		t.Fatalf("a new disk has %d changes, %v", d.Changes(), what)
	}
	for name := range want {
		if n := d.Pending(name); n != 0 {
			t.Fatalf("a new disk's file %s has %d appends that are not durable, %v", name, n, what)
		}
	}
}

// checkNow holds a disk as it is against the book.
func checkNow(t *testing.T, d *files.Disk, m *book, what ...any) {
	t.Helper()
	want := map[string]string{}
	for name, id := range m.names {
		text, pending := m.bytesNow(id)
		want[name] = text
		if n := d.Pending(name); n != pending {
			t.Fatalf("Pending of %s: %d, not %d, %v", name, n, pending, what)
		}
	}
	checkFiles(t, d, want, what)
	if d.Changes() != len(m.calls) {
		t.Fatalf("Changes: %d, not %d, %v", d.Changes(), len(m.calls), what)
	}
}

// run makes the calls, each of which has to answer what D1 says, on a new disk.
func run(t *testing.T, calls []call) (*files.Disk, *book) {
	t.Helper()
	d, m := files.New(), newBook()
	for i, c := range calls {
		if got, want := c.on(d), m.take(c); got != want {
			t.Fatalf("%v: %v, not %v", calls[:i+1], got, want)
		}
	}
	return d, m
}

// checkCut holds one Cut against the book, and that the disk stays.
func checkCut(t *testing.T, d *files.Disk, m *book, at, names int, keep []bool, torn int) {
	t.Helper()
	before, kept := tell(d), slices.Clone(keep)
	c := d.Cut(at, names, keep, torn)
	checkNew(t, c, m.cut(at, names, keep, torn), "cut", at, names, keep, torn, m.calls)
	if after := tell(d); after != before || !slices.Equal(keep, kept) {
		t.Fatalf("Cut(%d, %d, %v, %d) of %v: %s, not as before: %s", at, names, keep, torn, m.calls, after, before)
	}
}

// keeps are the lists of truths up to a length.
func keeps(most int) [][]bool {
	all := [][]bool{nil}
	for from := 0; len(all[from]) < most; from++ {
		all = append(all, append(slices.Clone(all[from]), false), append(slices.Clone(all[from]), true))
	}
	return all
}

// anyCall is some call, mostly one that may be.
func anyCall(r *rand.Rand) call {
	some := func() string { return []string{"a", "b", "c", "abcdefgh"}[r.IntN(4)] }
	if r.IntN(12) == 0 {
		some = func() string { return []string{"", "A", "abcdefghi", "a1", "zz"}[r.IntN(5)] }
	}
	switch r.IntN(10) {
	case 0, 1:
		return making(some())
	case 2, 3, 4:
		return appending(some(), strings.Repeat(string(rune('A'+r.IntN(26))), r.IntN(4)))
	case 5, 6:
		return syncing(some())
	case 7:
		return renaming(some(), some())
	case 8:
		return removing(some())
	}
	return syncingNames()
}

func anyScript(r *rand.Rand, most int) []call {
	calls := make([]call, r.IntN(most+1))
	for i := range calls {
		calls[i] = anyCall(r)
	}
	return calls
}

func anyKeep(r *rand.Rand) []bool {
	keep := make([]bool, r.IntN(7))
	for i := range keep {
		keep[i] = r.IntN(2) == 0
	}
	return keep
}

// someCalls are calls about two files; what is appended is another text each time.
func someCalls(text string) []call {
	return script(making("a"), making("b"), appending("a", text), appending("b", text[1:]), appending("a", ""), syncing("a"),
		renaming("a", "b"), renaming("b", "a"), renaming("a", "a"), removing("a"), syncingNames())
}

// D1, D2 (P6.1): each script of five calls that begins by making a file, with cuts at its end; at each moment, of four.
func TestAllScripts(t *testing.T) {
	all := keeps(2)
	var further func(calls []call)
	further = func(calls []call) {
		d, m := run(t, calls)
		checkNow(t, d, m, calls)
		if len(m.calls) < len(calls) { // the last one changed nothing: what comes of the others is looked at without it
			return
		}
		first := 0
		if len(calls) == 5 {
			first = 5
		}
		for at := first; at <= len(calls); at++ {
			for i, keep := range all {
				for n := range 3 {
					checkCut(t, d, m, at, n, keep, i+n)
				}
			}
		}
		if len(calls) == 5 {
			return
		}
		for _, c := range someCalls([]string{"", "xy", "zuv", "wx", "qrst"}[len(calls)]) {
			further(append(calls[:len(calls):len(calls)], c))
		}
	}
	further(script(making("a")))
}

// D1, D2 (P6.1): long scripts, each call's answer, and cuts of all kinds.
func TestLongScripts(t *testing.T) {
	r := rand.New(rand.NewPCG(6, 1))
	for range 400 {
		calls := anyScript(r, 60)
		d, m := run(t, calls)
		checkNow(t, d, m, calls)
		for range 40 {
			checkCut(t, d, m, r.IntN(200)-100, r.IntN(40)-20, anyKeep(r), r.IntN(20)-10)
		}
	}
}

// D2 (P6.1): power that goes at a moment knows nothing of what came behind it.
func TestMoments(t *testing.T) {
	r := rand.New(rand.NewPCG(6, 2))
	for range 60 {
		d, m := run(t, anyScript(r, 40))
		for at := range m.calls {
			till, _ := run(t, m.calls[:at])
			for range 6 {
				n, keep, torn := r.IntN(8), anyKeep(r), r.IntN(5)
				got, want := tell(d.Cut(at, n, keep, torn)), tell(till.Cut(at, n, keep, torn))
				if got != want {
					t.Fatalf("Cut(%d, %d, %v, %d) of %v: %s, not %s", at, n, keep, torn, m.calls, got, want)
				}
			}
		}
	}
}

// durable is what P6.2 says is kept: which names were there at the last SyncNames and not changed since, and what was
// synced of each file, by its name now.
type durable struct {
	settled map[string]bool
	synced  map[string][]byte
}

// see goes on by a call that was OK.
func (k *durable) see(d *files.Disk, c call) {
	switch c.what {
	case "names":
		k.settled = map[string]bool{}
		for _, name := range d.Names() {
			k.settled[name] = true
		}
	case "sync":
		k.synced[c.name], _ = d.Read(c.name)
	case "make", "remove":
		delete(k.settled, c.name)
		delete(k.synced, c.name)
	case "rename":
		was := k.synced[c.name]
		delete(k.settled, c.name)
		delete(k.settled, c.other)
		delete(k.synced, c.name)
		k.synced[c.other] = was
	}
}

// check holds that a disk has it.
func (k *durable) check(t *testing.T, d *files.Disk, what ...any) {
	t.Helper()
	for name := range k.settled {
		if b, err := d.Read(name); err != api.OK || !bytes.HasPrefix(b, k.synced[name]) {
			t.Fatalf("file %s: %q, %v; %q was synced, %v", name, b, err, k.synced[name], what)
		}
	}
}

// P6.2: what is durable is kept, whatever else is, at the end and at each moment, and by a Cut of a Cut.
func TestDurableIsKept(t *testing.T) {
	r := rand.New(rand.NewPCG(6, 3))
	for range 300 {
		d := files.New()
		k := durable{map[string]bool{}, map[string][]byte{}}
		for _, c := range anyScript(r, 40) {
			if c.on(d) == api.OK {
				k.see(d, c)
			}
			for _, keep := range [][]bool{nil, {false, true}, {true, false, true, false, true}, anyKeep(r)} {
				n, torn := r.IntN(10)-5, r.IntN(10)-5
				cut := d.Cut(d.Changes(), n, keep, torn)
				k.check(t, cut, n, keep, torn)
				k.check(t, cut.Cut(0, n, keep, torn), "again", n, keep, torn)
			}
		}
	}
}

// D2 (P6.1): a disk that power left is one like New's: what is done on it goes on from its files.
func TestGoingOn(t *testing.T) {
	r := rand.New(rand.NewPCG(6, 4))
	for range 200 {
		d, m := run(t, anyScript(r, 40))
		at, n, keep, torn := r.IntN(50)-10, r.IntN(10), anyKeep(r), r.IntN(5)
		c := d.Cut(at, n, keep, torn)
		want := m.cut(at, n, keep, torn)
		var begin []call
		for _, name := range slices.Sorted(maps.Keys(want)) {
			begin = append(begin, making(name), appending(name, want[name]), syncing(name))
		}
		begin = append(begin, syncingNames())
		other, om := run(t, begin)
		for _, next := range anyScript(r, 20) {
			if got, want := next.on(c), om.take(next); got != want {
				t.Fatalf("%v behind %v: %v, not %v", next, om.calls, got, want)
			}
			next.on(other)
		}
		for range 10 {
			at, n, keep, torn := r.IntN(len(om.calls)-len(begin)+1), r.IntN(10), anyKeep(r), r.IntN(5)
			got, want := tell(c.Cut(at, n, keep, torn)), tell(other.Cut(at+len(begin), n, keep, torn))
			if got != want {
				t.Fatalf("Cut(%d, %d, %v, %d) of a Cut and %v: %s, not %s", at, n, keep, torn, om.calls, got, want)
			}
		}
	}
}

// P1, P2: each call ends, and answers the same again on a disk of the same calls, whatever was asked between.
func TestSameAgain(t *testing.T) {
	r := rand.New(rand.NewPCG(6, 5))
	for range 60 {
		calls := anyScript(r, 30)
		one, _ := run(t, calls)
		other := files.New()
		for _, c := range calls {
			c.on(other)
			other.Cut(r.IntN(30), r.IntN(5), anyKeep(r), r.IntN(5)).Append("a", []byte("?"))
			tell(other)
		}
		if tell(one) != tell(other) || tell(one) != tell(one) {
			t.Fatalf("%v: %s, then %s", calls, tell(one), tell(other))
		}
		for range 10 {
			at, n, keep, torn := r.IntN(30), r.IntN(5), anyKeep(r), r.IntN(5)
			if got, want := tell(one.Cut(at, n, keep, torn)), tell(other.Cut(at, n, keep, torn)); got != want {
				t.Fatalf("Cut(%d, %d, %v, %d) of %v: %s, then %s", at, n, keep, torn, calls, got, want)
			}
		}
	}
}

// P6.1, P6.2: whatever the calls are, and the cuts.
func FuzzScript(f *testing.F) {
	f.Add(uint64(1), uint64(2), byte(30), 7, 1, byte(5), 1)
	f.Add(uint64(9), uint64(4), byte(60), -3, -1, byte(255), -9)
	f.Fuzz(func(t *testing.T, seed, more uint64, length byte, at, n int, bits byte, torn int) {
		d, m := run(t, anyScript(rand.New(rand.NewPCG(seed, more)), int(length)))
		checkNow(t, d, m)
		keep := make([]bool, length%9)
		for i := range keep {
			keep[i] = bits>>(i%8)&1 == 1
		}
		checkCut(t, d, m, at, n, keep, torn)
		k, again := durable{map[string]bool{}, map[string][]byte{}}, files.New()
		for _, c := range m.calls {
			c.on(again)
			k.see(again, c)
		}
		k.check(t, d.Cut(d.Changes(), n, keep, torn))
	})
}
