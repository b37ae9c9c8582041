package oplog_test

import (
	"fmt"
	"iter"
	"math/rand/v2"
	"slices"
	"strconv"
	"strings"
	"testing"

	"stemma/api"
	"stemma/files"
	"stemma/oplog"
)

// story is a log on its disk, and the chapter read word by word: which Appends it has, which frames its file, and how
// many of them are synced.
type story struct {
	t       *testing.T
	disk    *files.Disk
	log     *oplog.Log
	appends [][]api.Op
	frames  [][]api.Op
	synced  int
	next    int
	held    map[string]bool // the disks of which P9.3 was held
	told    []string
}

// newStory is one whose log was opened on a new disk.
func newStory(t *testing.T) *story {
	s := &story{t: t, disk: files.New(), held: map[string]bool{}}
	s.open()
	return s
}

func (s *story) open() {
	s.t.Helper()
	s.log = opened(s.t, s.disk)
	s.synced = len(s.frames)
}

func (s *story) append(n int) {
	s.t.Helper()
	o := from(s.next, n)
	s.next += n
	ok(s.t, s.log.Append(o))
	s.appends, s.frames = append(s.appends, o), append(s.frames, o)
}

func (s *story) sync() {
	s.t.Helper()
	ok(s.t, s.log.Sync())
	s.synced = len(s.frames)
}

func (s *story) compact() {
	s.t.Helper()
	ok(s.t, s.log.Compact())
	s.frames = anew(slices.Concat(s.appends...))
	s.synced = len(s.frames)
}

// elder puts a file `new`.
func (s *story) elder() {
	s.disk.Make("new")
	s.disk.Append("new", fileOf(from(900, 2)))
}

// call is something that comes in a story.
type call struct {
	name string
	do   func(*story)
}

func (c call) String() string { return c.name }

func appending(n int) call {
	return call{fmt.Sprint("append ", n), func(s *story) { s.append(n) }}
}

// calls are all that come in a story but Appends.
func calls() []call {
	return []call{
		{"sync", (*story).sync},
		{"compact", (*story).compact},
		{"open", (*story).open},
		{"junk, open", func(s *story) { s.disk.Append("log", []byte("STBjunk")); s.open() }},
		{"elder, open", func(s *story) { s.elder(); s.open() }},
		{"elder, compact", func(s *story) { s.elder(); s.compact() }},
	}
}

// comes makes a call, and holds what is behind it.
func (s *story) comes(c call) {
	s.t.Helper()
	s.told = append(s.told, c.name)
	c.do(s)
	check(s.t, s.disk, s.log, s.frames, s.synced)
	if got := s.log.Ops(); !slices.Equal(got, slices.Concat(s.appends...)) {
		s.t.Fatalf("%v: %d operations", s.told, len(got))
	}
}

// keeps are the lists of truths up to a length.
func keeps(most int) [][]bool {
	all := [][]bool{nil}
	for i := 0; len(all[i]) < most; i++ {
		all = append(all, append(slices.Clone(all[i]), false), append(slices.Clone(all[i]), true))
	}
	return all
}

// content is all that a disk has, as a text.
func content(d *files.Disk) string {
	var text strings.Builder
	for _, name := range d.Names() {
		b, _ := d.Read(name)
		text.WriteString(name + " " + strconv.Itoa(len(b)) + " ")
		text.Write(b)
	}
	return text.String()
}

// leftAt are the disks that a loss of power may leave at a moment, each once.
func leftAt(d *files.Disk, at, keep int, torn []int) iter.Seq[*files.Disk] {
	return func(yield func(*files.Disk) bool) {
		seen := map[string]bool{}
		for names := range 4 {
			for _, keep := range keeps(keep) {
				for _, n := range torn {
					left := d.Cut(at, names, keep, n)
					if c := content(left); !seen[c] {
						seen[c] = true
						if !yield(left) {
							return
						}
					}
				}
			}
		}
	}
}

// torn are how many bytes may be left of an append: none, some, all but one, all of it.
func (s *story) torn() []int {
	whole := len(fileOf(s.frames...))
	n := []int{0, 12, whole - 1, whole}
	for _, o := range s.frames[s.synced:] {
		size := len(fileOf(o))
		n = append(n, size-1, size)
	}
	slices.Sort(n)
	return slices.Compact(n)
}

// checkLeft holds P9.2 of a disk that a loss of power left: at least so many operations are there.
func (s *story) checkLeft(left *files.Disk, least int) *oplog.Log {
	s.t.Helper()
	before := content(left)
	l := opened(s.t, left)
	got, all := l.Ops(), slices.Concat(s.appends...)
	if len(got) < least || len(got) > len(all) || !slices.Equal(got, all[:len(got)]) {
		s.t.Fatalf("%v: %d operations are left of %d, %d synced", s.told, len(got), len(all), least)
	}
	if s.ending(len(got)) < 0 {
		s.t.Fatalf("%v: %d operations are left, a part of an Append", s.told, len(got))
	}
	b, _ := left.Read("log")
	frames, rest := readFile(b)
	if len(rest) > 0 {
		s.t.Fatalf("%v: %d bytes behind the frames", s.told, len(rest))
	}
	check(s.t, left, l, frames, len(frames))
	if !s.held[before] {
		s.held[before] = true
		s.checkAgain(left, got)
	}
	return l
}

// ending is how many of the first Appends have just so many operations; -1, if a part of one is among them.
func (s *story) ending(n int) int {
	k := 0
	for ; n > 0; k++ {
		n -= len(s.appends[k])
	}
	if n < 0 {
		return -1
	}
	return k
}

// checkAgain holds P9.3: power goes within the Open that left this disk, and behind it; and in the next one, again.
func (s *story) checkAgain(d *files.Disk, want []api.Op) {
	s.t.Helper()
	for at := range d.Changes() + 1 {
		for left := range leftAt(d, at, 1, []int{0, 1, 30, 1 << 20, -1}) {
			l := opened(s.t, left)
			if got := l.Ops(); !slices.Equal(got, want) || l.Synced() != len(want) {
				s.t.Fatalf("%v: %d operations are left again, not %d", s.told, len(got), len(want))
			}
			third := left.Cut(left.Changes()/2, 1, []bool{true}, 3)
			if got := opened(s.t, third).Ops(); !slices.Equal(got, want) {
				s.t.Fatalf("%v: %d operations are left for a third time, not %d", s.told, len(got), len(want))
			}
		}
	}
}

// power holds P9.2 and P9.3 at each moment behind one of the disk's changes: at least so many operations are left till
// the last one, what is synced now behind it.
func (s *story) power(since, least int) {
	s.t.Helper()
	keep := min(3, len(s.appends)-s.ending(least)+1)
	for at := since + 1; at <= s.disk.Changes(); at++ {
		if at == s.disk.Changes() {
			least = len(slices.Concat(s.frames[:s.synced]...))
		}
		for left := range leftAt(s.disk, at, keep, s.torn()) {
			s.checkLeft(left, least)
		}
	}
}

// P9.1, P9.2, P9.3: each script of four calls, with a loss of power behind each step of the disk's, whatever is kept.
func TestAllScripts(t *testing.T) {
	for _, first := range append(calls(), appending(1), appending(3)) {
		t.Run(first.name, func(t *testing.T) {
			t.Parallel()
			held := map[string]bool{}
			var further func(script []call)
			further = func(script []call) {
				s := newStory(t)
				s.held = held
				for _, c := range script[:len(script)-1] {
					s.comes(c)
				}
				since, least := s.disk.Changes(), s.log.Synced()
				s.comes(script[len(script)-1])
				s.power(since, least)
				if len(script) < 4 {
					for _, c := range append(calls(), appending(1), appending(3)) {
						further(append(script[:len(script):len(script)], c))
					}
				}
			}
			further([]call{first})
		})
	}
}

// P9.2, P9.3: power goes within the first Open of all.
func TestFirstOpen(t *testing.T) {
	s := newStory(t)
	s.power(-1, 0)
	for _, has := range []texts{{"new": "x"}, {"new": "", "a": ""}, {"new": string(fileOf(from(0, 2)))}} {
		s.disk = diskOf(t, has)
		s.open()
		s.power(-1, 0)
	}
}

// P9.2, P9.3: each of the bytes of an Append, of what was not durable, is the last one that is left.
func TestTornAtEachByte(t *testing.T) {
	s := newStory(t)
	s.comes(appending(2))
	s.comes(call{"sync", (*story).sync})
	for _, n := range []int{1, 6, 1} {
		s.comes(appending(n))
		for torn := range len(fileOf(s.frames[len(s.frames)-1])) + 1 {
			for _, keep := range keeps(3) {
				s.checkLeft(s.disk.Cut(s.disk.Changes(), 0, keep, torn), 2)
			}
		}
	}
	all := []bool{true, true, true}
	for k, want := range []int{2, 3, 9, 10} { // just those are kept that can be
		size := len(fileOf(s.frames[k]))
		if got := s.checkLeft(s.disk.Cut(s.disk.Changes(), 0, all[:k], size), 2); len(got.Ops()) != want {
			t.Errorf("%d operations of %d Appends that were kept", len(got.Ops()), k)
		}
	}
	lost := s.checkLeft(s.disk.Cut(s.disk.Changes(), 0, []bool{true, false, true}, len(fileOf(s.frames[3]))), 2)
	if len(lost.Ops()) != 3 {
		t.Errorf("%d operations, where the second Append was lost", len(lost.Ops()))
	}
}

// P9.2, P9.3: power goes within a Compact, and within an Open, that write many frames anew.
func TestMany(t *testing.T) {
	s := newStory(t)
	for _, n := range []int{200, 1, 150, 60, 200} {
		s.comes(appending(n))
	}
	s.comes(call{"sync", (*story).sync})
	s.comes(appending(100))
	for _, c := range calls()[1:] {
		since, least := s.disk.Changes(), s.log.Synced()
		s.comes(c)
		s.power(since, least)
		s.comes(appending(7))
	}
}

// anyCall is some call.
func anyCall(r *rand.Rand) call {
	if r.IntN(2) == 0 {
		return appending([]int{1, 1, 2, 5, 30, 200}[r.IntN(6)])
	}
	return calls()[r.IntN(6)]
}

func anyKeep(r *rand.Rand) []bool {
	keep := make([]bool, r.IntN(7))
	for i := range keep {
		keep[i] = r.IntN(4) > 0
	}
	return keep
}

// goesOn is a story behind a loss of power at a moment of its last call.
func (s *story) goesOn(r *rand.Rand, since, least int) {
	s.t.Helper()
	at := since + r.IntN(s.disk.Changes()-since+1)
	if at == s.disk.Changes() {
		least = s.log.Synced()
	}
	torn := s.torn()
	left := s.disk.Cut(at, r.IntN(4), anyKeep(r), torn[r.IntN(len(torn))])
	for range r.IntN(3) { // power goes within Opens, too
		s.checkLeft(left, least)
		left = left.Cut(r.IntN(left.Changes()+1), r.IntN(4), anyKeep(r), r.IntN(100))
	}
	s.told = append(s.told, fmt.Sprint("power at ", at))
	s.disk, s.log = left, s.checkLeft(left, least)
	s.appends = slices.Clone(s.appends[:s.ending(len(s.log.Ops()))])
	b, _ := left.Read("log")
	s.frames, _ = readFile(b)
	s.synced = len(s.frames)
}

// tellStory tells a long one, where power goes now and then.
func tellStory(t *testing.T, r *rand.Rand, length int) {
	t.Helper()
	s := newStory(t)
	for range length {
		since, least := s.disk.Changes(), s.log.Synced()
		s.comes(anyCall(r))
		if r.IntN(4) == 0 {
			s.goesOn(r, since, least)
		}
	}
	for range 4 {
		torn := s.torn()
		s.checkLeft(s.disk.Cut(s.disk.Changes(), r.IntN(4), anyKeep(r), torn[r.IntN(len(torn))]), s.log.Synced())
	}
}

// P9.1, P9.2, P9.3: long scripts, on what losses of power left.
func TestLongScripts(t *testing.T) {
	r := rand.New(rand.NewPCG(9, 1))
	for range 60 {
		tellStory(t, r, 30)
	}
}

// P2: the same calls on a log and its disk answer the same, whatever is done on what power leaves of it.
func TestSameAgain(t *testing.T) {
	r := rand.New(rand.NewPCG(9, 2))
	for range 40 {
		one, other := newStory(t), newStory(t)
		for range 20 {
			c := anyCall(r)
			one.comes(c)
			other.comes(c)
			left := other.disk.Cut(other.disk.Changes(), 1, anyKeep(r), r.IntN(50))
			ok(t, opened(t, left).Append(from(0, 3)))
			if a, b := tell(one.disk, one.log), tell(other.disk, other.log); !a.equal(b) {
				t.Fatalf("%v: %v, and then %v", one.told, a, b)
			}
		}
	}
}

// P1, P9.1, P9.3: whatever the files `log` and `new` have.
func FuzzOpen(f *testing.F) {
	good := fileOf(from(0, 2), from(2, 1))
	f.Add(good, []byte("x"), true)
	f.Add(good[:len(good)-1], []byte{}, false)
	f.Add(append(good, 0), good, true)
	f.Add(slices.Concat(good, framed(66, []byte{0}), good), good, true)
	f.Add(slices.Concat(framed(65, bodyOf(from(0, 1))), good), good, false)
	f.Fuzz(func(t *testing.T, log, elder []byte, there bool) {
		if len(log) > api.MaxFile || len(elder) > api.MaxFile {
			return
		}
		has := texts{"log": string(log)}
		if there {
			has["new"] = string(elder)
		}
		frames, _ := readFile(log)
		d := diskOf(t, has)
		check(t, d, opened(t, d), frames, len(frames))
		s := &story{t: t}
		s.checkAgain(d, slices.Concat(frames...))
		checkOpen(t, d, frames...)
	})
}

// P9.1, P9.2, P9.3: whatever the calls are, and the losses of power.
func FuzzStory(f *testing.F) {
	f.Add(uint64(1), uint64(2), byte(30))
	f.Add(uint64(9), uint64(4), byte(60))
	f.Fuzz(func(t *testing.T, seed, more uint64, length byte) {
		tellStory(t, rand.New(rand.NewPCG(seed, more)), int(length%64))
	})
}
