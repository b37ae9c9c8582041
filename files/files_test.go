package files_test

import (
	"bytes"
	"math"
	"slices"
	"strings"
	"testing"

	"stemma/api"
	"stemma/files"
)

type texts = map[string]string

// do makes calls on a disk, all of which have to be OK.
func do(t *testing.T, d *files.Disk, calls ...call) *files.Disk {
	t.Helper()
	for _, c := range calls {
		if err := c.on(d); err != api.OK {
			t.Fatalf("%v: %v", c, err)
		}
	}
	return d
}

// made is a disk on which calls were made.
func made(t *testing.T, calls ...call) *files.Disk {
	t.Helper()
	return do(t, files.New(), calls...)
}

// checkRefused holds that a call answers an error and changes nothing.
func checkRefused(t *testing.T, d *files.Disk, c call, want api.Errno) {
	t.Helper()
	before := tell(d)
	if err := c.on(d); err != want {
		t.Errorf("%.99v: %v, not %v", c, err, want)
	}
	if after := tell(d); after != before {
		t.Errorf("%.99v was refused: %.300s, not as before: %.300s", c, after, before)
	}
}

var noNames = []string{"", "A", "Z", "aB", "a1", "1", "a b", " a", "a ", "`", "{", "a{", "a\x00", "\x00", "a\n", "a.b", "a/b", "é", "aé", "\xff", "a\xe9", "ａ", "abcdefghi", "aaaaaaaaaaaaaaaaa", strings.Repeat("a", 1<<16)}

// The chapter's example.
func TestExample(t *testing.T) {
	d := made(t, making("a"), appending("a", "xy"), syncing("a"))
	checkNew(t, d.Cut(d.Changes(), 0, keeping(true), 9), texts{})
	checkNew(t, d.Cut(d.Changes(), 1, nil, 0), texts{"a": "xy"})
	do(t, d, syncingNames(), appending("a", "z"))
	for n := range 3 {
		checkNew(t, d.Cut(d.Changes(), n, nil, 1), texts{"a": "xy"})
		checkNew(t, d.Cut(d.Changes(), n, keeping(true), 0), texts{"a": "xy"})
		checkNew(t, d.Cut(d.Changes(), n, keeping(true), 1), texts{"a": "xyz"})
	}
}

// D1 (P6.1): New.
func TestNew(t *testing.T) {
	d, other := files.New(), files.New()
	checkNew(t, d, texts{})
	do(t, d, making("a"))
	checkNew(t, other, texts{})
}

// D1 (P6.1): Make, and which names are some.
func TestMake(t *testing.T) {
	d := made(t, making("a"), making("z"), making("abcdefgh"), making("m"))
	checkFiles(t, d, texts{"a": "", "z": "", "abcdefgh": "", "m": ""})
	for _, name := range noNames {
		checkRefused(t, d, making(name), api.ErrFileName)
	}
	do(t, d, appending("a", "x"))
	checkRefused(t, d, making("a"), api.ErrArg)
	checkRefused(t, d, making("abcdefgh"), api.ErrArg)
	for letter := 'a'; letter <= 'z'; letter++ {
		name := strings.Repeat(string(letter), 8)
		checkFiles(t, made(t, making(name)), texts{name: ""})
	}
	for letter := range 256 {
		want := api.ErrFileName
		if 'a' <= letter && letter <= 'z' {
			want = api.OK
		}
		for _, name := range []string{string([]byte{byte(letter)}), string([]byte{'a', byte(letter), 'a'})} {
			if err := files.New().Make(name); err != want {
				t.Errorf("Make of %q: %v, not %v", name, err, want)
			}
		}
	}
}

// D1 (P6.1): a disk of MaxFiles files, the order of its errors, and how there is room again.
func TestMaxFiles(t *testing.T) {
	d, want := files.New(), texts{}
	for _, name := range []string{"h", "g", "f", "e", "d", "c", "b", "a"} {
		do(t, d, making(name), appending(name, name))
		want[name] = name
	}
	checkFiles(t, d, want)
	checkRefused(t, d, making("i"), api.ErrFileFull)
	checkRefused(t, d, making("a"), api.ErrArg)
	checkRefused(t, d, making("I"), api.ErrFileName)
	do(t, d, renaming("a", "a"))
	checkRefused(t, d, making("i"), api.ErrFileFull)
	do(t, d, renaming("a", "i"))
	checkRefused(t, d, making("a"), api.ErrFileFull)
	do(t, d, renaming("i", "b"), making("i"))
	checkRefused(t, d, making("a"), api.ErrFileFull)
	do(t, d, removing("b"), making("a"))
	checkRefused(t, d, making("b"), api.ErrFileFull)

	do(t, d, syncingNames())
	c := d.Cut(d.Changes(), 0, nil, 0)
	checkRefused(t, c, making("b"), api.ErrFileFull)
	do(t, c, removing("a"), making("b"))
	checkNew(t, c.Cut(-1, 0, nil, 0), texts{"a": "", "c": "", "d": "", "e": "", "f": "", "g": "", "h": "", "i": ""})
}

// D1 (P6.1): Append and Read.
func TestAppend(t *testing.T) {
	d := made(t, making("a"), making("b"), appending("a", "xy"), appending("b", "12"), appending("a", ""), appending("a", "z\x00\xff"))
	checkFiles(t, d, texts{"a": "xyz\x00\xff", "b": "12"})
	if err := d.Append("b", nil); err != api.OK || d.Changes() != 7 || d.Pending("b") != 2 {
		t.Errorf("Append of nil: %v, %d changes, %d pending", err, d.Changes(), d.Pending("b"))
	}
	checkRefused(t, d, appending("c", "x"), api.ErrFileNone)
	checkRefused(t, d, appending("c", ""), api.ErrFileNone)
	do(t, d, renaming("b", "c"), removing("a"))
	checkRefused(t, d, appending("b", "x"), api.ErrFileNone)
	checkRefused(t, d, appending("a", "x"), api.ErrFileNone)
	do(t, d, appending("c", "3"))
	checkFiles(t, d, texts{"c": "123"})
}

// D1 (P6.1): a file of MaxFile bytes, at once and bit by bit, and what is left of it.
func TestMaxFile(t *testing.T) {
	const most = 1 << 20
	whole := strings.Repeat("w", most)
	d := made(t, making("a"), making("b"))
	checkRefused(t, d, appending("a", whole+"x"), api.ErrFileFull)
	checkRefused(t, d, appending("c", whole+"x"), api.ErrFileNone)
	do(t, d, appending("a", whole), appending("a", ""))
	checkRefused(t, d, appending("a", "x"), api.ErrFileFull)
	checkRefused(t, d, appending("a", whole), api.ErrFileFull)
	do(t, d, appending("b", whole[1:]))
	checkRefused(t, d, appending("b", "xy"), api.ErrFileFull)
	do(t, d, appending("b", "x"), appending("b", ""), renaming("a", "c"))
	checkRefused(t, d, appending("b", "x"), api.ErrFileFull)
	checkRefused(t, d, appending("c", "x"), api.ErrFileFull)
	checkFiles(t, d, texts{"b": whole[1:] + "x", "c": whole})
	do(t, d, syncingNames())

	c := d.Cut(d.Changes(), 0, keeping(true), most)
	checkNew(t, c, texts{"b": "", "c": whole}) // b's first append has most-1 bytes: torn at none of them
	checkRefused(t, c, appending("c", "x"), api.ErrFileFull)
	do(t, c, appending("c", ""), removing("c"), making("c"), appending("c", whole), appending("b", whole))
	checkFiles(t, c, texts{"b": whole, "c": whole})

	c = d.Cut(d.Changes(), 0, keeping(true), most-1)
	checkNew(t, c, texts{"b": whole[1:], "c": whole[1:]})
	checkRefused(t, c, appending("b", "xy"), api.ErrFileFull)
	do(t, c, appending("b", "y"), appending("c", "x"))
	checkFiles(t, c, texts{"b": whole[1:] + "y", "c": whole[1:] + "x"})

	c = d.Cut(d.Changes(), 0, keeping(false, true), 0)
	checkNew(t, c, texts{"b": strings.Repeat("\x00", most-1), "c": strings.Repeat("\x00", most)})
}

// D1 (P6.1): Sync, SyncNames, Pending, Changes.
func TestPending(t *testing.T) {
	d := files.New()
	for i, step := range []struct {
		c    call
		a, b int // how many appends are not durable
	}{
		{syncingNames(), 0, 0},
		{making("a"), 0, 0},
		{syncing("a"), 0, 0},
		{appending("a", "x"), 1, 0},
		{appending("a", ""), 2, 0},
		{making("b"), 2, 0},
		{appending("b", "yy"), 2, 1},
		{syncingNames(), 2, 1},
		{syncing("b"), 2, 0},
		{syncing("b"), 2, 0},
		{appending("a", "z"), 3, 0},
		{syncing("a"), 0, 0},
		{appending("a", "z"), 1, 0},
		{renaming("b", "b"), 1, 0},
		{renaming("a", "b"), 0, 1},
		{appending("b", "z"), 0, 2},
		{making("a"), 0, 2},
		{appending("a", "z"), 1, 2},
		{removing("b"), 1, 0},
		{making("b"), 1, 0},
		{renaming("b", "a"), 0, 0},
	} {
		do(t, d, step.c)
		if a, b := d.Pending("a"), d.Pending("b"); a != step.a || b != step.b || d.Changes() != i+1 {
			t.Errorf("%d changes, not %d, pending %d and %d, not %d and %d", d.Changes(), i+1, a, b, step.a, step.b)
		}
		for _, name := range append([]string{"c", "bb"}, noNames...) {
			if n := d.Pending(name); n != 0 {
				t.Errorf("Pending of %.20q: %d", name, n)
			}
		}
	}
	checkRefused(t, d, syncing("c"), api.ErrFileNone)
	checkRefused(t, d, syncing("b"), api.ErrFileNone)
}

// D1 (P6.1): Rename: to a new name, over another file, to its own name; the order of its errors.
func TestRename(t *testing.T) {
	d := made(t, making("a"), appending("a", "x"), making("b"), appending("b", "yy"), syncing("b"))
	do(t, d, renaming("a", "abcdefgh"))
	checkFiles(t, d, texts{"abcdefgh": "x", "b": "yy"})
	do(t, d, renaming("b", "b"))
	checkFiles(t, d, texts{"abcdefgh": "x", "b": "yy"})
	do(t, d, renaming("abcdefgh", "b"))
	checkFiles(t, d, texts{"b": "x"})
	for _, name := range noNames {
		checkRefused(t, d, renaming("b", name), api.ErrFileName)
		checkRefused(t, d, renaming("a", name), api.ErrFileName)
		checkRefused(t, d, renaming(name, name), api.ErrFileName)
		checkRefused(t, d, renaming(name, "b"), api.ErrFileNone)
	}
	checkRefused(t, d, renaming("a", "b"), api.ErrFileNone)
	checkRefused(t, d, renaming("a", "c"), api.ErrFileNone)
	checkRefused(t, d, renaming("a", "a"), api.ErrFileNone)
	do(t, d, appending("b", "z"))
	checkFiles(t, d, texts{"b": "xz"})
}

// D1 (P6.1): Remove; a file that is made again is another one.
func TestRemove(t *testing.T) {
	d := made(t, making("a"), appending("a", "x"), making("b"), appending("b", "y"))
	do(t, d, removing("a"))
	checkFiles(t, d, texts{"b": "y"})
	checkRefused(t, d, removing("a"), api.ErrFileNone)
	do(t, d, making("a"))
	checkFiles(t, d, texts{"a": "", "b": "y"})
	do(t, d, removing("b"), removing("a"))
	checkFiles(t, d, texts{})
	checkRefused(t, d, removing("b"), api.ErrFileNone)
}

// D1 (P6.1): names that are none are names of no file.
func TestNoFile(t *testing.T) {
	d := made(t, making("a"), making("b"), removing("b"), making("c"), renaming("c", "d"))
	for _, name := range append([]string{"b", "c", "aa"}, noNames...) {
		if b, err := d.Read(name); len(b) != 0 || err != api.ErrFileNone {
			t.Errorf("Read of %.20q: %q, %v", name, b, err)
		}
		checkRefused(t, d, appending(name, "x"), api.ErrFileNone)
		checkRefused(t, d, syncing(name), api.ErrFileNone)
		checkRefused(t, d, removing(name), api.ErrFileNone)
		checkRefused(t, d, renaming(name, "e"), api.ErrFileNone)
	}
}

// D1 (P6.1): Names rise byte by byte.
func TestNames(t *testing.T) {
	d := made(t, making("b"), making("ab"), making("abc"), making("a"), making("aa"), making("z"), making("zzzzzzzz"), making("ba"))
	want := []string{"a", "aa", "ab", "abc", "b", "ba", "z", "zzzzzzzz"}
	if got := d.Names(); !slices.Equal(got, want) {
		t.Errorf("Names: %q, not %q", got, want)
	}
}

// D2 (P6.1): each moment of a script, all names of which are done or none.
func TestCutMoments(t *testing.T) {
	d := made(t, making("a"), appending("a", "xy"), syncing("a"), syncingNames(), appending("a", "z"), making("b"), appending("b", "12"), removing("a"), syncing("b"), syncingNames(), renaming("b", "c"))
	none := []texts{{}, {}, {}, {}, {"a": "xy"}, {"a": "xy"}, {"a": "xy"}, {"a": "xy"}, {"a": "xy"}, {"a": "xy"}, {"b": "12"}, {"b": "12"}}
	all := []texts{{}, {"a": ""}, {"a": "x"}, {"a": "xy"}, {"a": "xy"}, {"a": "xyz"}, {"a": "xyz", "b": ""}, {"a": "xyz", "b": "1"}, {"b": "1"}, {"b": "12"}, {"b": "12"}, {"c": "12"}}
	changes := []int{0, 1, 1, 1, 0, 0, 1, 1, 2, 2, 0, 1} // of names, not durable
	for at := range none {
		checkNew(t, d.Cut(at, 0, nil, 0), none[at], at)
		checkNew(t, d.Cut(at, changes[at], keeping(true), 1), all[at], at)
		for _, round := range []int{1, 2, 1000} {
			checkNew(t, d.Cut(at+12*round, changes[at], keeping(true), 1), all[at], at, round)
			checkNew(t, d.Cut(-(at+1)-12*round, changes[at], keeping(true), 1), all[at], at, round)
			checkNew(t, d.Cut(at, changes[at]+round*(changes[at]+1), keeping(true), 1), all[at], at, round)
			checkNew(t, d.Cut(at, round*(changes[at]+1), nil, 1), none[at], at, round)
			checkNew(t, d.Cut(at, -1-round*(changes[at]+1), nil, 1), none[at], at, round)
		}
		checkNew(t, d.Cut(-(at+1), -(changes[at]+1), keeping(true), 1), all[at], at)
	}
	// math.MaxInt is 7 modulo 12, and 1 modulo 3 and modulo 2; math.MinInt counts as it does.
	for _, n := range []int{math.MaxInt, math.MinInt} {
		checkNew(t, d.Cut(n, n, keeping(true), n), all[7])
		checkNew(t, d.Cut(8, n, keeping(true), n), texts{"a": "xyz", "b": "1"})
	}
}

// D2 (P6.1): the first so many changes of names, of all kinds.
func TestCutNames(t *testing.T) {
	d := made(t, making("a"), appending("a", "1"), making("b"), appending("b", "2"), syncingNames(), syncing("a"), syncing("b"),
		renaming("a", "b"), renaming("b", "b"), removing("b"), making("b"), making("a"), renaming("b", "c"), removing("a"))
	for n, want := range []texts{
		{"a": "1", "b": "2"},
		{"b": "1"}, // b's file is gone, a's has its name
		{"b": "1"},
		{},
		{"b": ""},
		{"a": "", "b": ""},
		{"a": "", "c": ""},
		{"c": ""},
	} {
		checkNew(t, d.Cut(d.Changes(), n, keeping(true, true), 9), want, n)
		checkNew(t, d.Cut(d.Changes(), n+8, keeping(true, true), 9), want, n)
		checkNew(t, d.Cut(d.Changes(), -n-1, keeping(true, true), 9), want, n)
		checkNew(t, d.Cut(d.Changes(), -n-9, keeping(true, true), 9), want, n)
	}
	do(t, d, syncingNames())
	for n := range 9 {
		checkNew(t, d.Cut(d.Changes(), n, nil, 0), texts{"c": ""}, n)
	}
}

// D2 (P6.1): which appends are kept, and how much of the last one.
func TestCutAppends(t *testing.T) {
	d := made(t, making("a"), syncingNames(), appending("a", "ab"), syncing("a"), appending("a", "cde"), appending("a", ""), appending("a", "fg"), appending("a", "h"))
	for _, c := range []struct {
		keep []bool
		torn int
		want string
	}{
		{nil, 0, "ab"},
		{nil, 5, "ab"},
		{keeping(false, false, false, false), 1, "ab"},
		{keeping(false), 1, "ab"},

		{keeping(true), 0, "ab"},
		{keeping(true), 1, "abc"},
		{keeping(true), 2, "abcd"},
		{keeping(true), 3, "abcde"},
		{keeping(true), 4, "ab"},
		{keeping(true), 5, "abc"},
		{keeping(true), 7, "abcde"},
		{keeping(true), -1, "ab"},
		{keeping(true), -2, "abc"},
		{keeping(true), -4, "abcde"},
		{keeping(true), -5, "ab"},
		{keeping(true, false, false, false, true), 3, "abcde"},

		{keeping(true, true), 0, "abcde"}, // the last one has no bytes: there is nothing to tear
		{keeping(true, true), 1, "abcde"},
		{keeping(false, true), 0, "ab\x00\x00\x00"},
		{keeping(false, true), 7, "ab\x00\x00\x00"},

		{keeping(true, true, true), 0, "abcde"},
		{keeping(true, true, true), 1, "abcdef"},
		{keeping(true, false, true), 2, "abcdefg"},
		{keeping(false, false, true), 0, "ab\x00\x00\x00"},
		{keeping(false, false, true), 1, "ab\x00\x00\x00f"},
		{keeping(false, true, true, false), 2, "ab\x00\x00\x00fg"},
		{keeping(false, false, true), 3, "ab\x00\x00\x00"},
		{keeping(false, false, true), -3, "ab\x00\x00\x00fg"},

		{keeping(true, true, true, true), 0, "abcdefg"},
		{keeping(true, true, true, true), 1, "abcdefgh"},
		{keeping(true, true, true, true, true, false, true), 1, "abcdefgh"},
		{keeping(true, true, false, true), 1, "abcde\x00\x00h"},
		{keeping(true, true, false, true), 0, "abcde\x00\x00"},
		{keeping(false, false, false, true), 3, "ab\x00\x00\x00\x00\x00h"},
		{keeping(false, false, false, true), 2, "ab\x00\x00\x00\x00\x00"},
		{keeping(false, false, false, false, true), 1, "ab"},
	} {
		checkNew(t, d.Cut(d.Changes(), 0, c.keep, c.torn), texts{"a": c.want}, c)
	}
	checkNew(t, d.Cut(5, 0, keeping(true, true, true, true), 2), texts{"a": "abcd"})
	checkNew(t, d.Cut(3, 0, keeping(true, true), 1), texts{"a": "a"})
	do(t, d, syncing("a"))
	for torn := range 10 {
		checkNew(t, d.Cut(d.Changes(), 0, keeping(false, true), torn), texts{"a": "abcdefgh"})
		checkNew(t, d.Cut(d.Changes()-1, 0, keeping(false), torn), texts{"a": "ab"})
	}
}

// D2 (P6.1): keep counts anew for each file, and each file's last one is torn modulo its own length.
func TestCutFiles(t *testing.T) {
	d := made(t, making("a"), making("b"), making("c"), syncingNames(), appending("b", "123"), appending("a", "x"), appending("b", "45"), appending("c", "!"), syncing("c"), appending("a", "yz"), appending("b", "6789"))
	checkNew(t, d.Cut(d.Changes(), 0, keeping(true), 1), texts{"a": "x", "b": "1", "c": "!"})
	checkNew(t, d.Cut(d.Changes(), 0, keeping(true), 2), texts{"a": "", "b": "12", "c": "!"})
	checkNew(t, d.Cut(d.Changes(), 0, keeping(false, true), 2), texts{"a": "\x00yz", "b": "\x00\x00\x0045", "c": "!"})
	checkNew(t, d.Cut(d.Changes(), 0, keeping(false, true), 4), texts{"a": "\x00y", "b": "\x00\x00\x004", "c": "!"})
	checkNew(t, d.Cut(d.Changes(), 0, keeping(false, true, true), 4), texts{"a": "\x00y", "b": "\x00\x00\x00456789", "c": "!"})
	checkNew(t, d.Cut(d.Changes(), 0, keeping(true, false, true), 3), texts{"a": "x", "b": "123\x00\x00678", "c": "!"})
}

// D2 (P6.1): a file is itself under whatever name: what is synced under one is durable under another one.
func TestCutIdentity(t *testing.T) {
	d := made(t, making("a"), syncingNames(), appending("a", "x"), renaming("a", "b"), syncing("b"), appending("b", "y"))
	checkNew(t, d.Cut(d.Changes(), 0, nil, 0), texts{"a": "x"})
	checkNew(t, d.Cut(d.Changes(), 1, nil, 0), texts{"b": "x"})
	checkNew(t, d.Cut(d.Changes(), 0, keeping(true), 1), texts{"a": "xy"}) // appended under b, found under a

	d = made(t, making("a"), syncingNames(), appending("a", "x"), syncing("a"), renaming("a", "b"), making("a"), appending("a", "new"), syncing("a"))
	checkNew(t, d.Cut(d.Changes(), 0, nil, 0), texts{"a": "x"}) // another file's sync
	checkNew(t, d.Cut(d.Changes(), 1, nil, 0), texts{"b": "x"})
	checkNew(t, d.Cut(d.Changes(), 2, nil, 0), texts{"a": "new", "b": "x"})

	d = made(t, making("a"), appending("a", "old"), syncing("a"), appending("a", "er"), syncingNames(), removing("a"), making("a"), appending("a", "new"), syncing("a"))
	checkNew(t, d.Cut(d.Changes(), 0, nil, 0), texts{"a": "old"})
	checkNew(t, d.Cut(d.Changes(), 0, keeping(true), 2), texts{"a": "older"})
	checkNew(t, d.Cut(d.Changes(), 1, nil, 0), texts{})
	checkNew(t, d.Cut(d.Changes(), 2, nil, 0), texts{"a": "new"})

	d = made(t, making("a"), appending("a", "x"), making("b"), appending("b", "y"), syncingNames(), renaming("a", "b"), syncing("b"))
	checkNew(t, d.Cut(d.Changes(), 0, keeping(true), 1), texts{"a": "x", "b": "y"})
	checkNew(t, d.Cut(d.Changes(), 0, nil, 0), texts{"a": "x", "b": ""})
	checkNew(t, d.Cut(d.Changes(), 1, nil, 0), texts{"b": "x"})
}

// D2 (P6.1): a Cut of a Cut: what was left is durable there, and counts anew.
func TestCutAgain(t *testing.T) {
	d := made(t, making("a"), appending("a", "ab"), appending("a", "cd"), making("b"))
	c := d.Cut(d.Changes(), 1, keeping(false, true), 1)
	checkNew(t, c, texts{"a": "\x00\x00c"})
	for at := -3; at < 4; at++ {
		checkNew(t, c.Cut(at, at, keeping(false, true), at), texts{"a": "\x00\x00c"}, at)
	}
	do(t, c, appending("a", "ef"), making("b"), removing("a"))
	if n, pending := c.Changes(), c.Cut(1, 0, nil, 0).Pending("a"); n != 3 || pending != 0 {
		t.Errorf("%d changes, %d pending", n, pending)
	}
	checkNew(t, c.Cut(0, 9, keeping(true), 9), texts{"a": "\x00\x00c"})
	checkNew(t, c.Cut(1, 9, keeping(true), 1), texts{"a": "\x00\x00ce"})
	checkNew(t, c.Cut(3, 0, keeping(true), 2), texts{"a": "\x00\x00cef"})
	checkNew(t, c.Cut(3, 1, keeping(false), 2), texts{"a": "\x00\x00c", "b": ""})
	checkNew(t, c.Cut(3, 2, keeping(true), 2), texts{"b": ""})
	again := c.Cut(3, 1, keeping(true), 1).Cut(0, 0, nil, 0)
	checkNew(t, again, texts{"a": "\x00\x00ce", "b": ""})
	checkRefused(t, again, making("b"), api.ErrArg)
	checkFiles(t, d, texts{"a": "abcd", "b": ""})
}

// D2 (P6.1): the disk stays, and goes on.
func TestCutStays(t *testing.T) {
	d := made(t, making("a"), appending("a", "ab"), syncingNames(), appending("a", "cd"), renaming("a", "b"))
	before := tell(d)
	for at := range 6 {
		for n := range 3 {
			do(t, d.Cut(at, n, keeping(false, true), 1), making("z"), syncingNames(), removing("z"))
			if tell(d) != before {
				t.Fatalf("Cut(%d, %d) changed the disk: %s, not %s", at, n, tell(d), before)
			}
		}
	}
	do(t, d, appending("b", "e"), syncing("b"))
	checkNew(t, d.Cut(d.Changes(), 1, nil, 0), texts{"b": "abcde"})
	checkNew(t, d.Cut(5, 0, keeping(true), 1), texts{"a": "a"})
}

// P6.2 by hand: names that are settled, with the bytes that were synced, at their places.
func TestDurable(t *testing.T) {
	d := made(t, making("a"), appending("a", "12"), appending("a", "34"), syncing("a"), making("b"), appending("b", "56"), syncingNames(), syncing("b"), appending("a", "78"), appending("b", "90"), making("c"), renaming("c", "d"), removing("d"))
	synced := texts{"a": "1234", "b": "56"}
	for _, keep := range keeps(3) {
		for n := range 5 {
			for torn := range 4 {
				c := d.Cut(d.Changes(), n, keep, torn)
				for name, want := range synced {
					if b, err := c.Read(name); !bytes.HasPrefix(b, []byte(want)) || err != api.OK {
						t.Errorf("Cut(_, %d, %v, %d): file %s is %q, %v", n, keep, torn, name, b, err)
					}
				}
			}
		}
	}
}

// Rule 4: what is handed in is neither written into nor kept, nor what lies behind its length looked at.
func TestHandedIn(t *testing.T) {
	whole := []byte("abcdef")
	d := made(t, making("a"))
	for range 2 {
		if err := d.Append("a", whole[:2]); err != api.OK {
			t.Fatal(err)
		}
	}
	d.Append("a", whole[2:4])
	if string(whole) != "abcdef" {
		t.Errorf("Append wrote: %q", whole)
	}
	clear(whole)
	checkFiles(t, d, texts{"a": "ababcd"})

	keep := keeping(false, true, true)
	c := d.Cut(d.Changes(), 1, keep[:2], 1)
	checkNew(t, c, texts{"a": "\x00\x00a"})
	if !slices.Equal(keep, keeping(false, true, true)) {
		t.Errorf("Cut wrote: %v", keep)
	}
	clear(keep)
	checkNew(t, c, texts{"a": "\x00\x00a"})
}

// Rule 4: what is answered is new memory.
func TestAnswered(t *testing.T) {
	d := made(t, making("a"), appending("a", "xy"), making("b"), syncingNames(), syncing("a"))
	spoil := func(d *files.Disk) {
		b, _ := d.Read("a")
		clear(b[:cap(b)])
		l := d.Names()
		clear(l[:cap(l)])
	}
	c := d.Cut(d.Changes(), 0, nil, 0)
	other := c.Cut(0, 0, nil, 0)
	for _, disk := range []*files.Disk{d, c, other} {
		held, _ := disk.Read("a")
		listed := disk.Names()
		spoil(disk)
		if string(held) != "xy" || !slices.Equal(listed, []string{"a", "b"}) {
			t.Errorf("two answers share memory: %q, %q", held, listed)
		}
		checkFiles(t, disk, texts{"a": "xy", "b": ""})
		checkNew(t, disk.Cut(disk.Changes(), 0, nil, 0), texts{"a": "xy", "b": ""})
	}
}

// Rule 4: a disk and what power leaves of it go ways of their own.
func TestApart(t *testing.T) {
	d := made(t, making("a"), appending("a", "ab"), appending("a", "cd"), syncingNames())
	c := d.Cut(d.Changes(), 0, keeping(true, true), 1)
	other := d.Cut(d.Changes(), 0, keeping(true, true), 1)
	again := c.Cut(0, 0, nil, 0)
	do(t, c, appending("a", "ef"), syncing("a"))
	do(t, d, appending("a", "gh"), renaming("a", "b"))
	do(t, other, appending("a", "ij"), making("b"))
	do(t, again, appending("a", "kl"), removing("a"))
	checkFiles(t, d, texts{"b": "abcdgh"})
	checkFiles(t, c, texts{"a": "abcef"})
	checkFiles(t, other, texts{"a": "abcij", "b": ""})
	checkFiles(t, again, texts{})
	checkNew(t, again.Cut(1, 0, keeping(true), 1), texts{"a": "abck"})
}

// Rule 8: a call on a nil disk, whatever else is wrong.
func TestNil(t *testing.T) {
	var d *files.Disk
	for _, name := range append([]string{"a", "b"}, noNames...) {
		for _, c := range script(making(name), appending(name, "x"), appending(name, ""), syncing(name), renaming(name, "a"), renaming("a", name), removing(name), syncingNames()) {
			if err := c.on(d); err != api.ErrArg {
				t.Errorf("%.99v on a nil disk: %v", c, err)
			}
		}
		if b, err := d.Read(name); len(b) != 0 || err != api.ErrArg {
			t.Errorf("Read on a nil disk: %q, %v", b, err)
		}
		if n := d.Pending(name); n != 0 {
			t.Errorf("Pending on a nil disk: %d", n)
		}
	}
	if err := d.Append("a", make([]byte, 1<<20+1)); err != api.ErrArg {
		t.Errorf("Append of too much on a nil disk: %v", err)
	}
	if l, n := d.Names(), d.Changes(); len(l) != 0 || n != 0 {
		t.Errorf("Names and Changes on a nil disk: %q, %d", l, n)
	}
	for _, n := range []int{0, 1, -1, math.MaxInt, math.MinInt} {
		if c := d.Cut(n, n, keeping(true), n); c != nil {
			t.Errorf("Cut on a nil disk: %v", c)
		}
	}
}

// A disk that no call gave panics neither: it is as New's.
func TestZeroDisk(t *testing.T) {
	checkNew(t, new(files.Disk), texts{})
	checkNew(t, new(files.Disk).Cut(3, 3, keeping(true), 3), texts{})
	d := do(t, new(files.Disk), syncingNames(), making("a"), appending("a", "x"))
	checkFiles(t, d, texts{"a": "x"})
	checkRefused(t, new(files.Disk), renaming("a", "b"), api.ErrFileNone)
}
