package stamp_test

import (
	"math"
	"slices"
	"strconv"
	"strings"
	"testing"

	"stemma/api"
	"stemma/stamp"
)

// edges are numbers at which something changes, and some far beyond.
var edges = []int{math.MinInt, math.MinInt + 1, -8, -1, 0, 1, 2, 6, 7, 8, 9, 10, 11, api.MaxCounter - 1, api.MaxCounter, api.MaxCounter + 1, math.MaxInt - 1, math.MaxInt}

// edgeStamps are all stamps of two edges, right or not.
func edgeStamps() []api.Stamp {
	var l []api.Stamp
	for _, n := range edges {
		for _, r := range edges {
			l = append(l, api.Stamp{N: n, R: r})
		}
	}
	return l
}

func isRight(s api.Stamp) bool {
	return s.N > 0 && s.N < 1048577 && s.R > -1 && s.R < 8
}

// S1: Right.

func TestRight(t *testing.T) {
	for _, c := range []struct {
		s    api.Stamp
		want bool
	}{
		{api.Stamp{N: 12, R: 0}, true},
		{api.Stamp{N: 1, R: 0}, true},
		{api.Stamp{N: 1, R: 7}, true},
		{api.Stamp{N: 1 << 20, R: 7}, true},
		{api.Stamp{}, false},
		{api.Stamp{N: 0, R: 1}, false},
		{api.Stamp{N: -1, R: 0}, false},
		{api.Stamp{N: 1, R: 8}, false},
		{api.Stamp{N: 1, R: -1}, false},
		{api.Stamp{N: 1<<20 + 1, R: 0}, false},
	} {
		if got := stamp.Right(c.s); got != c.want {
			t.Errorf("Right(%v): %v", c.s, got)
		}
	}
	for _, s := range edgeStamps() {
		if got := stamp.Right(s); got != isRight(s) {
			t.Errorf("Right(%v): %v", s, got)
		}
	}
}

// S1: Compare.

func TestCompare(t *testing.T) {
	for _, c := range []struct {
		a, b api.Stamp
		want int
	}{
		{api.Stamp{N: 8, R: 2}, api.Stamp{N: 8, R: 3}, -1},
		{api.Stamp{N: 8, R: 3}, api.Stamp{N: 8, R: 2}, 1},
		{api.Stamp{N: 8, R: 2}, api.Stamp{N: 8, R: 2}, 0},
		{api.Stamp{N: 7, R: 7}, api.Stamp{N: 8, R: 0}, -1},
		{api.Stamp{N: 9, R: 0}, api.Stamp{N: 8, R: 7}, 1},
		{api.Stamp{}, api.Stamp{N: 1, R: 0}, -1},
		{api.Stamp{}, api.Stamp{}, 0},
		{api.Stamp{N: 0, R: 1}, api.Stamp{}, 1},
		// any two numbers: far enough apart that a difference would wrap round
		{api.Stamp{N: math.MinInt}, api.Stamp{N: math.MaxInt}, -1},
		{api.Stamp{N: math.MaxInt}, api.Stamp{N: math.MinInt}, 1},
		{api.Stamp{N: 3, R: math.MinInt}, api.Stamp{N: 3, R: math.MaxInt}, -1},
		{api.Stamp{N: 3, R: math.MaxInt}, api.Stamp{N: 3, R: math.MinInt}, 1},
		{api.Stamp{N: -5, R: 9}, api.Stamp{N: -4, R: -9}, -1},
	} {
		if got := stamp.Compare(c.a, c.b); got != c.want {
			t.Errorf("Compare(%v, %v): %d, not %d", c.a, c.b, got, c.want)
		}
	}
}

// P1.2: edgeStamps stand in the one line, so each pair must compare as its places do.
func TestOneLine(t *testing.T) {
	l := edgeStamps()
	if !slices.IsSorted(edges) {
		t.Fatal("the edges do not rise")
	}
	for i, a := range l {
		for j, b := range l {
			want := 0
			if i < j {
				want = -1
			} else if i > j {
				want = 1
			}
			if got := stamp.Compare(a, b); got != want {
				t.Fatalf("Compare(%v, %v): %d, not %d", a, b, got, want)
			}
		}
	}
	turned := slices.Clone(l)
	slices.Reverse(turned)
	slices.SortFunc(turned, stamp.Compare)
	if !slices.Equal(turned, l) {
		t.Error("sorted by Compare the stamps stand in another line")
	}
}

// S2.

func TestNext(t *testing.T) {
	for _, c := range []struct {
		seen, replica int
		want          api.Stamp
		err           api.Errno
	}{
		{7, 2, api.Stamp{N: 8, R: 2}, api.OK},
		{0, 0, api.Stamp{N: 1, R: 0}, api.OK},
		{0, 7, api.Stamp{N: 1, R: 7}, api.OK},
		{api.MaxCounter - 1, 7, api.Stamp{N: api.MaxCounter, R: 7}, api.OK},
		{api.MaxCounter, 0, api.Stamp{}, api.ErrStampFull},
		{api.MaxCounter + 1, 7, api.Stamp{}, api.ErrStampFull},
		{math.MaxInt, 0, api.Stamp{}, api.ErrStampFull},
		{-1, 0, api.Stamp{}, api.ErrArg},
		{math.MinInt, 0, api.Stamp{}, api.ErrArg},
		{5, -1, api.Stamp{}, api.ErrArg},
		{5, 8, api.Stamp{}, api.ErrArg},
		// both apply: the one named first
		{api.MaxCounter, 8, api.Stamp{}, api.ErrArg},
		{math.MaxInt, -1, api.Stamp{}, api.ErrArg},
	} {
		got, err := stamp.Next(c.seen, c.replica)
		if got != c.want || err != c.err {
			t.Errorf("Next(%d, %d): %v, %d", c.seen, c.replica, got, err)
		}
	}
}

// A stamp of Next is right, and stands behind every right one whose counter was seen.
func TestNextIsBehind(t *testing.T) {
	for _, seen := range edges {
		for replica := range api.MaxReplicas {
			s, err := stamp.Next(seen, replica)
			if err != api.OK {
				continue
			}
			if !stamp.Right(s) || s.R != replica {
				t.Errorf("Next(%d, %d): %v", seen, replica, s)
			}
			if last := (api.Stamp{N: seen, R: api.MaxReplicas - 1}); stamp.Compare(last, s) != -1 {
				t.Errorf("Next(%d, %d): %v is not behind %v", seen, replica, s, last)
			}
		}
	}
}

// S3: Text.

func TestText(t *testing.T) {
	for _, c := range []struct {
		s    api.Stamp
		want string
	}{
		{api.Stamp{N: 12, R: 0}, "12.0"},
		{api.Stamp{N: 1, R: 7}, "1.7"},
		{api.Stamp{N: 100, R: 3}, "100.3"},
		{api.Stamp{N: api.MaxCounter, R: 7}, "1048576.7"},
		{api.Stamp{}, "0.0"},
		{api.Stamp{N: 0, R: 1}, ""},
		{api.Stamp{N: 1, R: 8}, ""},
		{api.Stamp{N: 1, R: -1}, ""},
		{api.Stamp{N: -1, R: 0}, ""},
		{api.Stamp{N: api.MaxCounter + 1, R: 0}, ""},
	} {
		if got := stamp.Text(c.s); got != c.want {
			t.Errorf("Text(%v): %q, not %q", c.s, got, c.want)
		}
	}
	for _, s := range edgeStamps() {
		want := ""
		if isRight(s) || s == (api.Stamp{}) {
			want = strconv.Itoa(s.N) + "." + strconv.Itoa(s.R)
		}
		if got := stamp.Text(s); got != want {
			t.Errorf("Text(%v): %q, not %q", s, got, want)
		}
	}
}

// S3: Parse.

func TestParse(t *testing.T) {
	for s, want := range map[string]api.Stamp{
		"12.0":      {N: 12, R: 0},
		"0.0":       {},
		"1.0":       {N: 1, R: 0},
		"1.7":       {N: 1, R: 7},
		"1000000.4": {N: 1000000, R: 4},
		"1048576.7": {N: api.MaxCounter, R: 7},
	} {
		if got, err := stamp.Parse(s); got != want || err != api.OK {
			t.Errorf("Parse(%q): %v, %d", s, got, err)
		}
	}
}

func TestParseRefuses(t *testing.T) {
	for _, s := range []string{
		"", ".", "0", "12", "12.", ".0", "12.0.", "12.0.0", "12..0", "12,0", "120",
		"012.0", "12.00", "12.01", "00.0", "0.00", "00.00", // noughts ahead
		"0.1", "0.7", "1.8", "1.9", "1.10", "1048577.0", "9999999.0", // of none such
		"-1.0", "+1.0", "1.-0", "1.+1", "-0.0", "0.-0", // signs
		" 1.0", "1.0 ", "1 .0", "1. 0", "1.0\n", "1.0\x00", "\x001.0",
		"1e3.0", "0x1.0", "1_0.0", "a.b", "1.a", "a.1",
		"\u0661.0", "\uff11.0", "\xff.\xff", "1\u00b70", // figures and points of others
		// numbers that wrap round in 32 or 64 bits to a right one
		"4294967297.0", "18446744073709551617.0", "1.18446744073709551616", "1.4294967296",
		"18446744073709551616.0", "0.18446744073709551616",
		strings.Repeat("9", 1000) + ".0", "1." + strings.Repeat("9", 1000), strings.Repeat("0", 1000) + "1.0", "1." + strings.Repeat("0", 1000),
	} {
		if got, err := stamp.Parse(s); got != (api.Stamp{}) || err != api.ErrStampForm {
			t.Errorf("Parse(%.40q): %v, %d", s, got, err)
		}
	}
}

// S3: a text of few bytes is parsed just if it is the text of some stamp.
func TestParseShortTexts(t *testing.T) {
	texts := map[string]api.Stamp{"0.0": {}}
	for n := 1; n < 1000; n++ {
		for r := range api.MaxReplicas {
			texts[strconv.Itoa(n)+"."+strconv.Itoa(r)] = api.Stamp{N: n, R: r}
		}
	}
	const most, bytes = 5, "0178.9+- /:"
	level := []string{""}
	for range most + 1 {
		var longer []string
		for _, s := range level {
			want, is := texts[s]
			got, err := stamp.Parse(s)
			if is != (err == api.OK) || !is && err != api.ErrStampForm || got != want {
				t.Fatalf("Parse(%q): %v, %d", s, got, err)
			}
			for i := range bytes {
				longer = append(longer, s+bytes[i:i+1])
			}
		}
		level = longer
	}
}

// P1.3.
func TestThereAndBack(t *testing.T) {
	back := func(s api.Stamp) {
		if got, err := stamp.Parse(stamp.Text(s)); got != s || err != api.OK {
			t.Fatalf("Parse(%q): %v, %d, not %v", stamp.Text(s), got, err, s)
		}
	}
	back(api.Stamp{})
	for r := range api.MaxReplicas {
		for n := 1; n <= api.MaxCounter; n += 1 + n/1000 {
			back(api.Stamp{N: n, R: r})
		}
		for n := api.MaxCounter - 1000; n <= api.MaxCounter; n++ {
			back(api.Stamp{N: n, R: r})
		}
	}
}

// P1, P2: at all arguments each call ends, none panics, and asked again it answers the same.
func TestSameAgain(t *testing.T) {
	again := func() (l []any) {
		for _, a := range edgeStamps() {
			next, err := stamp.Next(a.N, a.R)
			text := stamp.Text(a)
			read, form := stamp.Parse(strconv.Itoa(a.N) + "." + strconv.Itoa(a.R))
			l = append(l, stamp.Right(a), next, err, text, read, form, stamp.Compare(a, next), stamp.Compare(read, a))
			if err != api.OK && next != (api.Stamp{}) || form != api.OK && read != (api.Stamp{}) {
				t.Errorf("of %v beside an error: %v, %v", a, next, read)
			}
		}
		return l
	}
	if !slices.Equal(again(), again()) {
		t.Error("the answers differ")
	}
}

// S3 at whatever bytes: what is parsed is the text of its stamp, which is right or none.
func FuzzParse(f *testing.F) {
	for _, s := range []string{"", "0.0", "12.0", "012.0", "1048576.7", "1048577.0", "1.8", "\xff.0"} {
		f.Add(s)
	}
	f.Fuzz(func(t *testing.T, s string) {
		got, err := stamp.Parse(s)
		if err == api.OK && (stamp.Text(got) != s || !stamp.Right(got) && got != (api.Stamp{})) {
			t.Errorf("Parse(%q): %v", s, got)
		}
		if err != api.OK && (err != api.ErrStampForm || got != (api.Stamp{})) {
			t.Errorf("Parse(%q): %v, %d", s, got, err)
		}
	})
}
