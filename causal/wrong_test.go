package causal_test

import (
	"math"
	"math/rand/v2"
	"reflect"
	"slices"
	"strings"
	"testing"

	"stemma/api"
	"stemma/causal"
	"stemma/ops"
)

// wrongs are changes that make an operation of any kind one that is not right.
func wrongs() []func(*api.Op) {
	return []func(*api.Op){
		func(o *api.Op) { *o = api.Op{} },
		func(o *api.Op) { o.ID = api.Stamp{} },
		func(o *api.Op) { o.ID.N = 0 },
		func(o *api.Op) { o.ID.N = -1 },
		func(o *api.Op) { o.ID.N = math.MinInt },
		func(o *api.Op) { o.ID.N = api.MaxCounter + 1 },
		func(o *api.Op) { o.ID.N = math.MaxInt },
		func(o *api.Op) { o.ID.R = -1 },
		func(o *api.Op) { o.ID.R = 8 },
		func(o *api.Op) { o.ID.R = math.MinInt },
		func(o *api.Op) { o.ID.R = math.MaxInt },
		func(o *api.Op) { o.Deps[o.ID.R] = o.ID.N },
		func(o *api.Op) { o.Deps[6] = o.ID.N },
		func(o *api.Op) { o.Deps[7] = -1 },
		func(o *api.Op) { o.Deps[7] = math.MinInt },
		func(o *api.Op) { o.Deps[7] = math.MaxInt },
		func(o *api.Op) { o.Kind = 0 },
		func(o *api.Op) { o.Kind = 6 },
		func(o *api.Op) { o.Kind = -1 },
		func(o *api.Op) { o.Ref = at(1, 5) }, // no number of Deps, or no field of its kind
		func(o *api.Op) { o.Ref.R = -1 },
		func(o *api.Op) { o.Ref.R = 8 },
		func(o *api.Op) { o.Side = 3 },
		func(o *api.Op) { o.Ch = 31 },
		func(o *api.Op) { o.Ch = 127 },
		func(o *api.Op) { o.Under = at(-1, 0) },
		func(o *api.Op) { o.Key += "0" },
		func(o *api.Op) { o.Name += "A" },
		func(o *api.Op) { o.Value = strings.Repeat("v", 17) },
		func(o *api.Op) { o.From.ID.N = -1 },
		func(o *api.Op) { o.To.ID = at(1, 8) },
	}
}

// K1, rule 3: an operation that is not right, of each kind, wherever it would stand, is ErrOp, ahead of all else.
func TestWrongOps(t *testing.T) {
	for n := range len(story()) + 1 {
		s := given(story()[:n]...)
		adds(t, s, typed(at(9, 3), at(8, 3)))
		for _, o := range story() {
			for i, change := range wrongs() {
				wrong := o
				change(&wrong)
				if ops.Right(wrong) {
					t.Fatalf("the %d. change makes %+v, which is right", i, wrong)
				}
				refuses(t, s, wrong, api.ErrOp)
			}
		}
		for _, o := range story()[n:] {
			adds(t, s, o, o)
		}
		check(t, s, story(), []api.Op{typed(at(9, 3), at(8, 3))})
	}
}

// K1: what is named first is told first.
func TestTwoErrors(t *testing.T) {
	s := given(append(chain(0, 1, 3), waiting(64)...)...)
	late, waits := typed(at(9, 0)), typed(at(9, 1), at(8, 2))
	lateAndLacking := typed(at(9, 0), at(8, 1)) // late, and if it were not, one too many would pend
	refuses(t, s, late, api.ErrFork)
	refuses(t, s, lateAndLacking, api.ErrFork)
	refuses(t, s, waits, api.ErrPending)
	for _, o := range []api.Op{late, lateAndLacking, waits, chain(0, 2, 2)[0], waiting(1)[0]} {
		o.Value = "v"
		refuses(t, s, o, api.ErrOp)
	}
	// an ID that is known is asked for ahead of being late, and of there being no room
	adds(t, s, typed(at(2, 0)))
	adds(t, s, typed(at(2, 7), at(1, 0)))
	check(t, s, chain(0, 1, 3), waiting(64))
}

// Rule 8, P1: a nil store.
func TestNil(t *testing.T) {
	var s *causal.Store
	for range 2 {
		for _, o := range append(story(), api.Op{}, api.Op{ID: at(-1, 99)}) {
			if l, e := s.Add(o); e != api.ErrArg || len(l) != 0 {
				t.Errorf("Add: %v, %v", ids(l), e)
			}
		}
		if s.Known() != (api.Vector{}) || len(s.All()) != 0 || len(s.Pending()) != 0 {
			t.Errorf("%v, %v, %v", s.Known(), s.All(), s.Pending())
		}
		for _, most := range []int{math.MinInt, -1, 0, 1, math.MaxInt} {
			if l := s.Missing(api.Vector{-1, 0, math.MaxInt}, most); len(l) != 0 {
				t.Errorf("Missing: %v", ids(l))
			}
		}
	}
}

// A store that no call gave is as New's.
func TestZeroStore(t *testing.T) {
	for order := range orders(story()[:4]) {
		s := new(causal.Store)
		check(t, s, nil, nil)
		for _, o := range order {
			s.Add(o)
		}
		checkWhole(t, s, story()[:4])
	}
}

// told is all that a store tells.
type told struct {
	known                            api.Vector
	all, pending, some, most, lacked []api.Op
}

func tell(s *causal.Store) told {
	return told{s.Known(), s.All(), s.Pending(), s.Missing(api.Vector{1}, 2), s.Missing(api.Vector{}, math.MaxInt), s.Missing(api.Vector{2, 3}, 4000)}
}

func (a told) equal(b told) bool {
	return a.known == b.known && slices.Equal(a.all, b.all) && slices.Equal(a.pending, b.pending) &&
		slices.Equal(a.some, b.some) && slices.Equal(a.most, b.most) && slices.Equal(a.lacked, b.lacked)
}

// wipe writes into all that an answer's memory may hold.
func wipe(l []api.Op) {
	l = l[:cap(l)]
	for i := range l {
		l[i] = api.Op{ID: at(-1, -1), Key: "wiped"}
	}
}

// Rule 4: what is answered shares no memory with what the store keeps, nor with another answer.
func TestMemory(t *testing.T) {
	r := rand.New(rand.NewPCG(10, 9))
	for range 60 {
		s, b := causal.New(), &book{}
		for _, o := range jostled(r, grown(r, 3, 60), 30) {
			want, _ := b.add(o)
			delivered, _ := s.Add(o)
			first, second := tell(s), tell(s)
			wipe(delivered)
			for _, l := range [][]api.Op{first.all, first.pending, first.some, first.most, first.lacked} {
				wipe(l)
			}
			if third := tell(s); !second.equal(third) {
				t.Fatalf("an answer is another one, once another one is written into: %+v, %+v", second, third)
			}
			if !slices.Equal(b.all[len(b.all)-len(want):], s.All()[len(b.all)-len(want):]) {
				t.Fatal("what Add answers is what the store keeps")
			}
			check(t, s, b.all, b.pending)
		}
	}
}

// Rule 4: what was answered stays, whatever the store is given later on.
func TestAnswersStay(t *testing.T) {
	r := rand.New(rand.NewPCG(10, 10))
	s := causal.New()
	var answers, copies [][]api.Op
	keep := func(l []api.Op) { answers, copies = append(answers, l), append(copies, slices.Clone(l)) }
	for _, o := range jostled(r, grown(r, 4, 200), 40) {
		l, _ := s.Add(o)
		keep(l)
		keep(s.All())
		keep(s.Pending())
		keep(s.Missing(api.Vector{}, 50))
	}
	for i := range answers {
		if !slices.Equal(answers[i], copies[i]) {
			t.Fatalf("the %d. answer is another one now", i)
		}
	}
}

// P2: the same calls on another store answer the same, whatever was asked between, and whatever other stores are given.
func TestSameAgain(t *testing.T) {
	r := rand.New(rand.NewPCG(10, 11))
	for range 30 {
		script := jostled(r, grown(r, 1+r.IntN(8), 150), 60)
		script = append(script, script[:20]...)
		quiet, asked, other := causal.New(), causal.New(), causal.New()
		for i, o := range script {
			l, e := quiet.Add(o)
			other.Add(script[len(script)-1-i])
			again, eAgain := asked.Add(o)
			if e != eAgain || !slices.Equal(l, again) {
				t.Fatalf("%v, %v; again: %v, %v", ids(l), e, ids(again), eAgain)
			}
			if a, b := tell(asked), tell(asked); !a.equal(b) {
				t.Fatalf("asked twice: %+v, %+v", a, b)
			}
		}
		if a, b := tell(quiet), tell(asked); !a.equal(b) {
			t.Fatalf("%+v, %+v", a, b)
		}
	}
}

// P1: at whatever arguments no call panics, on whatever store.
func TestNoPanic(t *testing.T) {
	r := rand.New(rand.NewPCG(10, 12))
	numbers := []int{math.MinInt, -1, 0, 1, 2, 7, 8, 64, api.MaxCounter, api.MaxCounter + 1, math.MaxInt}
	number := func() int { return numbers[r.IntN(len(numbers))] }
	s := given(story()...)
	for range 20000 {
		o := story()[r.IntN(7)]
		v := reflect.ValueOf(&o).Elem()
		f := v.Field(r.IntN(v.NumField()))
		switch f.Kind() {
		case reflect.Int:
			f.SetInt(int64(number()))
		case reflect.Array:
			f.Index(r.IntN(8)).SetInt(int64(number()))
		case reflect.String:
			f.SetString(strings.Repeat("\xff", r.IntN(80)))
		default:
			o.ID = at(number(), number())
			o.Ref, o.From.ID, o.To.ID = at(number(), number()), at(number(), number()), at(number(), number())
		}
		s.Add(o)
		s.Missing(api.Vector{number(), number(), number()}, number())
	}
	checkCauses(t, s.All())
}
