package causal_test

import (
	"fmt"
	"math/rand/v2"
	"slices"
	"testing"

	"stemma/api"
	"stemma/causal"
	"stemma/ops"
)

// book is the chapter read word by word.
type book struct {
	all, pending []api.Op
}

func knownOf(l []api.Op) (known api.Vector) {
	for _, o := range l {
		known[o.ID.R] = max(known[o.ID.R], o.ID.N)
	}
	return known
}

func missingOf(l []api.Op, v api.Vector, most int) []api.Op {
	lacks := slices.DeleteFunc(slices.Clone(l), func(o api.Op) bool { return v[o.ID.R] >= o.ID.N })
	return lacks[:min(len(lacks), max(0, most))]
}

func among(l []api.Op, id api.Stamp) bool {
	return slices.ContainsFunc(l, func(o api.Op) bool { return o.ID == id })
}

// lacking are the stamps that an operation's Deps tell and that were not delivered.
func (b *book) lacking(o api.Op) (l []api.Stamp) {
	for r, n := range o.Deps {
		if n != 0 && !among(b.all, at(n, r)) {
			l = append(l, at(n, r))
		}
	}
	return l
}

func (b *book) ready(o api.Op) bool {
	return len(b.lacking(o)) == 0 && o.Deps[o.ID.R] == knownOf(b.all)[o.ID.R]
}

func (b *book) late(o api.Op) bool {
	known := knownOf(b.all)
	if o.Deps[o.ID.R] < known[o.ID.R] {
		return true
	}
	return slices.ContainsFunc(b.lacking(o), func(s api.Stamp) bool { return s.N <= known[s.R] })
}

// add is K1's Add.
func (b *book) add(o api.Op) ([]api.Op, api.Errno) {
	switch {
	case !ops.Right(o):
		return nil, api.ErrOp
	case among(b.all, o.ID) || among(b.pending, o.ID):
		return nil, api.OK
	case b.late(o):
		return nil, api.ErrFork
	case len(b.all)+len(b.pending)+1 > 4000:
		return nil, api.ErrFull
	case b.ready(o):
		return b.deliver(o), api.OK
	case len(b.pending) == 64:
		return nil, api.ErrPending
	}
	b.pending = append(b.pending, o)
	slices.SortFunc(b.pending, byStamp)
	return nil, api.OK
}

func byStamp(a, b api.Op) int {
	if a.ID.N != b.ID.N {
		return a.ID.N - b.ID.N
	}
	return a.ID.R - b.ID.R
}

// deliver delivers one that is ready, and then, again and again, the first by its stamp that pends and is ready.
func (b *book) deliver(o api.Op) []api.Op {
	told := []api.Op{o}
	b.all = append(b.all, o)
	for {
		i := slices.IndexFunc(b.pending, b.ready)
		if i < 0 {
			break
		}
		told, b.all = append(told, b.pending[i]), append(b.all, b.pending[i])
		b.pending = slices.Delete(b.pending, i, i+1)
	}
	b.pending = slices.DeleteFunc(b.pending, b.late)
	return told
}

// tally is how often something came about in scripts: a test that held nothing of it would hold nothing.
type tally struct {
	delivered, several, twice, waits, dropped int
	errors                                    map[api.Errno]int
}

func (n *tally) String() string { return fmt.Sprintf("%+v", *n) }

// count adds a call.
func (n *tally) count(told []api.Op, e api.Errno, ahead, behind *book) {
	if n.errors == nil {
		n.errors = map[api.Errno]int{}
	}
	n.errors[e]++
	n.delivered += len(told)
	if len(told) > 1 {
		n.several++
	}
	if len(behind.pending) > len(ahead.pending) {
		n.waits++
	}
	n.dropped += max(0, len(ahead.all)+len(ahead.pending)-len(behind.all)-len(behind.pending))
	if e == api.OK && len(told) == 0 && len(behind.pending) == len(ahead.pending) {
		n.twice++
	}
}

// play holds each call of a script against the chapter; it answers the store.
func play(t *testing.T, script []api.Op, n *tally) *causal.Store {
	t.Helper()
	s, b := causal.New(), &book{}
	for i, o := range script {
		ahead := *b
		want, wantE := b.add(o)
		got, e := s.Add(o)
		if e != wantE || !slices.Equal(got, want) {
			t.Fatalf("%s: the last answers %v, %v, not %v, %v", brief(script[:i+1]), ids(got), e, ids(want), wantE)
		}
		n.count(got, e, &ahead, b)
	}
	check(t, s, b.all, b.pending)
	return s
}

// brief is what a failure tells of a script: IDs and Deps.
func brief(l []api.Op) string {
	out := ""
	for _, o := range l {
		out += fmt.Sprintf("%d.%d on %v, ", o.ID.N, o.ID.R, o.Deps)
	}
	return out
}

// few are all Inserts at the beginning with counters and Deps of so many replicas.
func few(replicas, counters int) (l []api.Op) {
	for n := 1; n <= counters; n++ {
		for r := range replicas {
			choices := 1
			for range replicas {
				choices *= n
			}
			for choice := range choices {
				o := typed(at(n, r))
				for on := range replicas {
					o.Deps[on] = choice % n
					choice /= n
				}
				l = append(l, o)
			}
		}
	}
	return l
}

// scripts plays all scripts of so many of some operations.
func scripts(t *testing.T, of []api.Op, calls int, n *tally) {
	t.Helper()
	script := make([]api.Op, calls)
	var fill func(i int)
	fill = func(i int) {
		if i == calls {
			play(t, script, n)
			return
		}
		for _, o := range of {
			script[i] = o
			fill(i + 1)
		}
	}
	fill(0)
}

// K1, K2 (P10.1): all short scripts of few operations.
func TestShortScripts(t *testing.T) {
	var n tally
	scripts(t, few(1, 4), 4, &n)
	scripts(t, few(2, 2), 4, &n)
	scripts(t, few(2, 3), 3, &n)
	scripts(t, few(3, 2), 3, &n)
	if n.several < 1000 || n.twice < 1000 || n.waits < 1000 || n.dropped < 400 || n.errors[api.ErrFork] < 1000 {
		t.Errorf("too little came about: %v", &n)
	}
}

// whatever is an operation of some replicas and counters that leans on whatever.
func whatever(r *rand.Rand, replicas, counters int) api.Op {
	o := typed(at(1+r.IntN(counters), r.IntN(replicas)))
	o.Ch = 'a' + r.IntN(26)
	for range r.IntN(4) {
		o.Deps[r.IntN(replicas)] = r.IntN(o.ID.N)
	}
	return o
}

// K1, K2 (P10.1): long scripts of whatever.
func TestLongScripts(t *testing.T) {
	r := rand.New(rand.NewPCG(10, 1))
	var n tally
	for range 2000 {
		replicas, counters := 1+r.IntN(8), 1+r.IntN(60)
		var script []api.Op
		for range r.IntN(300) {
			script = append(script, whatever(r, replicas, counters))
		}
		checkCauses(t, play(t, script, &n).All())
	}
	if n.several < 300 || n.twice < 1000 || n.waits < 1000 || n.dropped < 1000 || n.errors[api.ErrFork] < 1000 {
		t.Errorf("too little came about: %v", &n)
	}
}

// K1, K2 (P10.1): scripts of what replicas made, out of order, twice, with forks and with what is not right among them.
func TestMixedScripts(t *testing.T) {
	r := rand.New(rand.NewPCG(10, 2))
	var n tally
	for range 300 {
		var script []api.Op
		for _, o := range grown(r, 1+r.IntN(8), 150) {
			script = append(script, o)
			if r.IntN(4) == 0 {
				script = append(script, o)
			}
			if r.IntN(9) == 0 {
				script = append(script, disturbed(r, o))
			}
		}
		checkCauses(t, play(t, jostled(r, script, 1+r.IntN(200)), &n).All())
	}
	if n.several < 1000 || n.twice < 1000 || n.waits < 1000 || n.dropped < 50 || n.errors[api.ErrFork] < 1000 || n.errors[api.ErrPending] < 100 || n.errors[api.ErrOp] < 100 {
		t.Errorf("too little came about: %v", &n)
	}
}

// disturbed is an operation with another counter or other Deps.
func disturbed(r *rand.Rand, o api.Op) api.Op {
	if r.IntN(2) == 0 {
		o.ID.N += r.IntN(9) - 4
	}
	if r.IntN(2) == 0 {
		o.Deps[r.IntN(8)] = r.IntN(o.ID.N + 9)
	}
	return o
}

// K1, K2 (P10.1): scripts as bytes.
func FuzzScript(f *testing.F) {
	f.Add([]byte{0x21, 0x01, 0x10, 0x00, 0x10, 0x00})
	f.Add([]byte{0x32, 0x12, 0x21, 0x01, 0x10, 0x00, 0x30, 0x01})
	f.Fuzz(func(t *testing.T, b []byte) {
		var script []api.Op
		for ; len(b) > 1 && len(script) < 300; b = b[2:] {
			o := typed(at(int(b[0]>>4), int(b[0]&3)))
			for r := range 4 {
				if back := int(b[1]>>(2*r)) & 3; back > 0 {
					o.Deps[r] = max(0, o.ID.N-back)
				}
			}
			script = append(script, o)
		}
		checkCauses(t, play(t, script, &tally{}).All())
	})
}
