package ops_test

import (
	"math"
	"reflect"
	"regexp"
	"slices"
	"strings"
	"testing"

	"stemma/api"
	"stemma/ops"
)

// fieldsOf are the fields that each kind uses, beside ID, Deps and Kind.
var fieldsOf = map[api.Kind]string{
	api.Insert: "Ref Side Ch",
	api.Delete: "Ref",
	api.Move:   "Ref Under Key",
	api.Set:    "Ref Name Value",
	api.Mark:   "From To Name Value",
}

var (
	keyForm   = regexp.MustCompile(`^[0-9a-z]{0,63}[1-9a-z]$`)
	nameForm  = regexp.MustCompile(`^[a-z]{1,8}$`)
	valueForm = regexp.MustCompile(`^[ -~]{0,16}$`)
)

// stampRight tells whether an operation may name a stamp.
func stampRight(o api.Op, s api.Stamp) bool {
	return s.R >= 0 && s.R < 8 && s.N > 0 && s.N < 1048577 && s.N <= o.Deps[s.R]
}

// isRight is the chapter's word RIGHT read field by field, whatever the kind.
func isRight(o api.Op) bool {
	if o.ID.R < 0 || o.ID.R > 7 || o.ID.N < 1 || o.ID.N > 1048576 {
		return false
	}
	for _, n := range o.Deps {
		if n < 0 || n > 1048576 || n >= o.ID.N {
			return false
		}
	}
	uses, ok := fieldsOf[o.Kind]
	if !ok {
		return false
	}
	v := reflect.ValueOf(o)
	for i := range v.NumField() {
		field := v.Type().Field(i).Name
		switch {
		case slices.Contains([]string{"ID", "Deps", "Kind"}, field):
		case slices.Contains(strings.Fields(uses), field):
			if !fieldRight(o, field) {
				return false
			}
		case !v.Field(i).IsZero():
			return false
		}
	}
	return true
}

// fieldRight tells whether a field that its kind uses may be.
func fieldRight(o api.Op, field string) bool {
	none := api.Stamp{}
	switch field {
	case "Ref":
		return stampRight(o, o.Ref) || o.Kind == api.Insert && o.Ref == none
	case "Side":
		return o.Side == 2 || o.Side == 1 && o.Ref != none
	case "Ch":
		return o.Ch == 0 || o.Ch > 31 && o.Ch < 127
	case "Under":
		return o.Under != o.Ref && (o.Under == none || stampRight(o, o.Under))
	case "Key":
		return keyForm.MatchString(o.Key)
	case "Name":
		return nameForm.MatchString(o.Name)
	case "Value":
		return valueForm.MatchString(o.Value)
	case "From":
		return stampRight(o, o.From.ID)
	}
	return stampRight(o, o.To.ID)
}

// isClosed is the chapter's word CLOSED: each stamp is counted by going through the whole set.
func isClosed(l []api.Op) bool {
	count := func(s api.Stamp) (n int) {
		for _, o := range l {
			if o.ID == s {
				n++
			}
		}
		return n
	}
	for _, o := range l {
		if !isRight(o) || count(o.ID) != 1 {
			return false
		}
		for r, n := range o.Deps {
			if n != 0 && count(api.Stamp{N: n, R: r}) != 1 {
				return false
			}
		}
	}
	return true
}

// mostOf is what O1 says of Most, replica by replica.
func mostOf(l []api.Op) api.Vector {
	var v api.Vector
	for r := range v {
		for _, o := range l {
			if o.ID.R == r && o.ID.N > v[r] {
				v[r] = o.ID.N
			}
		}
	}
	return v
}

// isSorted tells whether s is what O1 says of Sort: how many come ahead of one says where it stands.
func isSorted(s, l []api.Op) bool {
	if len(s) != len(l) {
		return false
	}
	for i, o := range l {
		at := 0
		for j, other := range l {
			less := other.ID.N < o.ID.N || other.ID.N == o.ID.N && other.ID.R < o.ID.R
			if less || other.ID == o.ID && j < i {
				at++
			}
		}
		if s[at] != o {
			return false
		}
	}
	return true
}

// change is another value of one field.
type change func(*api.Op)

// stampChanges give one stamp of an operation other values.
func stampChanges(at func(*api.Op) *api.Stamp) []change {
	var l []change
	for _, n := range []int{math.MinInt, -1, 0, 1, 2, 3, 4, 8, 9, 10, 1<<20 - 1, 1 << 20, 1<<20 + 1, math.MaxInt} {
		l = append(l, func(o *api.Op) { at(o).N = n })
	}
	for _, r := range []int{math.MinInt, -1, 0, 2, 4, 7, 8, 1 << 32, math.MaxInt} {
		l = append(l, func(o *api.Op) { at(o).R = r })
	}
	return append(l, func(o *api.Op) { *at(o) = api.Stamp{} })
}

// textChanges give one text of an operation other values.
func textChanges(at func(*api.Op) *string) []change {
	var l []change
	for _, s := range []string{
		"", "0", "1", "9", "a", "z", "A", "a0", "0a", "~", " ", "/", ":", "`", "{", "\x1f", "\x7f", "\x80", "\x00", "a\x00", "é", "\xff", "a\n", "ab cd",
		strings.Repeat("a", 8), strings.Repeat("a", 9), strings.Repeat("~", 16), strings.Repeat("~", 17), strings.Repeat("a", 16),
		strings.Repeat("z", 64), strings.Repeat("z", 65), strings.Repeat("0", 63) + "1", strings.Repeat("0", 64), strings.Repeat("1", 1000),
	} {
		l = append(l, func(o *api.Op) { *at(o) = s })
	}
	return l
}

// changes are other values of all fields, one at a time.
func changes() []change {
	var l []change
	l = append(l, stampChanges(func(o *api.Op) *api.Stamp { return &o.ID })...)
	l = append(l, stampChanges(func(o *api.Op) *api.Stamp { return &o.Ref })...)
	l = append(l, stampChanges(func(o *api.Op) *api.Stamp { return &o.Under })...)
	l = append(l, stampChanges(func(o *api.Op) *api.Stamp { return &o.From.ID })...)
	l = append(l, stampChanges(func(o *api.Op) *api.Stamp { return &o.To.ID })...)
	l = append(l, textChanges(func(o *api.Op) *string { return &o.Key })...)
	l = append(l, textChanges(func(o *api.Op) *string { return &o.Name })...)
	l = append(l, textChanges(func(o *api.Op) *string { return &o.Value })...)
	for r := range api.MaxReplicas {
		for _, n := range []int{math.MinInt, -1, 0, 2, 3, 8, 9, 10, 1<<20 - 1, 1 << 20, math.MaxInt} {
			l = append(l, func(o *api.Op) { o.Deps[r] = n })
		}
	}
	for _, n := range []int{math.MinInt, -1, 0, 1, 2, 3, 4, 5, 6, 1 << 32, math.MaxInt} {
		l = append(l, func(o *api.Op) { o.Kind = api.Kind(n) }, func(o *api.Op) { o.Side = api.Side(n) })
	}
	for _, n := range []int{math.MinInt, -1, 0, 1, 31, 32, 33, 125, 126, 127, 128, 256 + 'a', 1<<32 + 'a', math.MaxInt} {
		l = append(l, func(o *api.Op) { o.Ch = n })
	}
	for _, after := range []bool{false, true} {
		l = append(l, func(o *api.Op) { o.From.After = after }, func(o *api.Op) { o.To.After = after })
	}
	return l
}

// O1: Right, where whatever two fields have other values, against another reading of the chapter.
func TestRightOfChanges(t *testing.T) {
	all := changes()
	right := 0
	for _, whole := range some() {
		for i, first := range all {
			for _, second := range all[i:] {
				o := whole
				first(&o)
				second(&o)
				got := ops.Right(o)
				if got != isRight(o) {
					t.Fatalf("Right(%+v): %v", o, got)
				}
				if got {
					right++
				}
			}
		}
	}
	if right < 1000 {
		t.Errorf("only %d of them are right", right)
	}
}

// O1 at whatever numbers and texts.
func FuzzRight(f *testing.F) {
	for _, o := range some() {
		f.Add(o.ID.N, o.ID.R, o.Deps[0], o.Deps[2], o.Deps[7], int(o.Kind), o.Ref.N, o.Ref.R, int(o.Side), o.Ch, o.Under.N, o.Under.R, o.Key, o.Name, o.Value, o.From.ID.N, o.From.ID.R, o.To.ID.N, o.To.ID.R, o.To.After)
	}
	f.Fuzz(func(t *testing.T, n, r, deps0, deps2, deps7, kind, refN, refR, side, ch, underN, underR int, key, name, value string, fromN, fromR, toN, toR int, after bool) {
		o := api.Op{
			ID: api.Stamp{N: n, R: r}, Deps: api.Vector{0: deps0, 2: deps2, 7: deps7}, Kind: api.Kind(kind),
			Ref: api.Stamp{N: refN, R: refR}, Side: api.Side(side), Ch: ch,
			Under: api.Stamp{N: underN, R: underR}, Key: key, Name: name, Value: value,
			From: api.Anchor{ID: api.Stamp{N: fromN, R: fromR}}, To: api.Anchor{ID: api.Stamp{N: toN, R: toR}, After: after},
		}
		if got := ops.Right(o); got != isRight(o) {
			t.Errorf("Right(%+v): %v", o, got)
		}
		for _, l := range [][]api.Op{{o}, {o, o}} {
			if got := ops.Closed(l); got != isClosed(l) {
				t.Errorf("Closed(%+v): %v", l, got)
			}
			if got := ops.Most(l); got != mostOf(l) {
				t.Errorf("Most(%+v): %v", l, got)
			}
			if got := ops.Sort(l); !slices.Equal(got, l) {
				t.Errorf("Sort(%+v): %+v", l, got)
			}
		}
	})
}
