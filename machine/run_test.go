package machine_test

import (
	"math"
	"slices"
	"testing"

	"tutor/api"
	"tutor/machine"
	"tutor/word"
)

// ran is what all three calls tell of one word.
type ran struct {
	state  int
	stateE api.Errno
	out    []int
	outE   api.Errno
	last   int
	said   []int
	fromE  api.Errno
}

func runAll(m api.Machine, s int, w []int) (r ran) {
	r.state, r.stateE = machine.State(m, w)
	r.out, r.outE = machine.Run(m, w)
	r.last, r.said, r.fromE = machine.From(m, s, w)
	return r
}

func equalRan(a, b ran) bool {
	return a.state == b.state && a.stateE == b.stateE && slices.Equal(a.out, b.out) && a.outE == b.outE &&
		a.last == b.last && slices.Equal(a.said, b.said) && a.fromE == b.fromE
}

// P3.1, P3.3, P3.4: ordinary words.
func TestRuns(t *testing.T) {
	odd := api.Machine{Kind: api.Dfa, K: 1, O: 2, N: 2, Next: []int{1, 0}, Out: []int{0, 1}}
	turns := api.Machine{Kind: api.Mealy, K: 1, O: 2, N: 2, Next: []int{1, 0}, Out: []int{0, 1}}
	one := api.Machine{Kind: api.Dfa, K: 1, O: 2, N: 1, Next: []int{0}, Out: []int{1}}
	still := api.Machine{Kind: api.Mealy, K: 1, O: 64, N: 1, Next: []int{0}, Out: []int{63}}
	for _, c := range []struct {
		name  string
		m     api.Machine
		w     []int
		state int
		out   []int
		s     int
		last  int
		said  []int
	}{
		{"odd, nil", odd, nil, 0, []int{0}, 1, 1, []int{1}},
		{"odd, empty", odd, []int{}, 0, []int{0}, 1, 1, []int{1}},
		{"odd, 1", odd, []int{0}, 1, []int{1}, 1, 0, []int{0}},
		{"odd, 2", odd, []int{0, 0}, 0, []int{0}, 1, 1, []int{1}},
		{"odd, 3", odd, []int{0, 0, 0}, 1, []int{1}, 1, 0, []int{0}},
		{"turns, nil", turns, nil, 0, nil, 1, 1, nil},
		{"turns, empty", turns, []int{}, 0, nil, 1, 1, nil},
		{"turns, 1", turns, []int{0}, 1, []int{0}, 1, 0, []int{1}},
		{"turns, 3", turns, []int{0, 0, 0}, 1, []int{0, 1, 0}, 1, 0, []int{1, 0, 1}},
		{"one state", one, []int{0, 0}, 0, []int{1}, 0, 0, []int{1}},
		{"one state, says 63", still, []int{0, 0}, 0, []int{63, 63}, 0, 0, []int{63, 63}},
		{"acceptor", acceptor(), []int{1, 0, 0}, 2, []int{1}, 1, 2, []int{1}},
		{"acceptor, by 1", acceptor(), []int{0, 1}, 0, []int{0}, 2, 0, []int{0}},
		{"acceptor, on", acceptor(), []int{0}, 1, []int{0}, 1, 2, []int{1}},
		{"transducer", transducer(), []int{0, 0, 1, 0}, 1, []int{0, 2, 1, 0}, 1, 0, []int{2, 0, 0, 2}},
		{"transducer, by 1", transducer(), []int{1, 1}, 0, []int{1, 1}, 1, 1, []int{0, 0}},
	} {
		want := ran{state: c.state, out: c.out, last: c.last, said: c.said}
		if got := runAll(c.m, c.s, c.w); !equalRan(got, want) {
			t.Errorf("%s: %v, not %v", c.name, got, want)
		}
	}
}

// P3.3, P3.4: wrong machines, states and words, and which error comes first.
func TestRunErrors(t *testing.T) {
	long, longer := same(api.MaxWord+1, 0), append(same(api.MaxWord, 0), 2)
	for _, start := range []func() api.Machine{acceptor, transducer} {
		whole := start()
		for _, c := range []struct {
			name  string
			turn  func(m *api.Machine)
			s     int
			w     []int
			run   api.Errno
			fromE api.Errno
		}{
			{"symbol K", nil, 1, []int{2}, api.ErrSymbol, api.ErrSymbol},
			{"symbol -1", nil, 1, []int{0, -1}, api.ErrSymbol, api.ErrSymbol},
			{"symbol greatest", nil, 1, []int{0, math.MaxInt}, api.ErrSymbol, api.ErrSymbol},
			{"symbol least", nil, 1, []int{math.MinInt}, api.ErrSymbol, api.ErrSymbol},
			{"last symbol", nil, 1, []int{0, 1, 1, 2}, api.ErrSymbol, api.ErrSymbol},
			{"too long", nil, 1, long, api.ErrLong, api.ErrLong},
			{"too long, and a symbol", nil, 1, longer, api.ErrLong, api.ErrLong},
			{"state N, symbol K", nil, whole.N, []int{2}, api.ErrSymbol, api.ErrState},
			{"state -1, symbol -1", nil, -1, []int{-1}, api.ErrSymbol, api.ErrState},
			{"state N, too long", nil, whole.N, long, api.ErrLong, api.ErrState},
			{"kind", func(m *api.Machine) { m.Kind = 0 }, 0, []int{0}, api.ErrKind, api.ErrKind},
			{"kind, state N, symbol", func(m *api.Machine) { m.Kind = 0 }, whole.N, []int{2}, api.ErrKind, api.ErrKind},
			{"K, state -1, too long", func(m *api.Machine) { m.K = 65 }, -1, long, api.ErrArg, api.ErrArg},
			{"K 0", func(m *api.Machine) { m.K = 0 }, 0, nil, api.ErrArg, api.ErrArg},
			{"O", func(m *api.Machine) { m.O = 0 }, -1, []int{2}, api.ErrOut, api.ErrOut},
			{"N 0", func(m *api.Machine) { m.N = 0 }, 0, nil, api.ErrMany, api.ErrMany},
			{"N, state, too long", func(m *api.Machine) { m.N = 1025 }, -1, long, api.ErrMany, api.ErrMany},
			{"no lists", func(m *api.Machine) { m.Next, m.Out = nil, nil }, -1, []int{2}, api.ErrShape, api.ErrShape},
			{"Next, not on the way", func(m *api.Machine) { m.Next[3] = -1 }, 0, nil, api.ErrState, api.ErrState},
			{"Next, symbol", func(m *api.Machine) { m.Next[3] = 9 }, 0, []int{2}, api.ErrState, api.ErrState},
			{"Out, not on the way", func(m *api.Machine) { m.Out[1] = 9 }, 0, nil, api.ErrOut, api.ErrOut},
			{"Out, state, too long", func(m *api.Machine) { m.Out[1] = 9 }, -1, long, api.ErrOut, api.ErrOut},
		} {
			m := start()
			if c.turn != nil {
				c.turn(&m)
			}
			want := ran{stateE: c.run, outE: c.run, fromE: c.fromE}
			if got := runAll(m, c.s, c.w); !equalRan(got, want) {
				t.Errorf("kind %d, %s: %v, not %v", whole.Kind, c.name, got, want)
			}
		}
		for _, s := range []int{-1, whole.N, whole.N + 1, math.MaxInt, math.MinInt} {
			for _, w := range [][]int{nil, {0, 0}} {
				if last, out, e := machine.From(whole, s, w); last != 0 || len(out) != 0 || e != api.ErrState {
					t.Errorf("kind %d, from %d by %v: %d, %v, %d", whole.Kind, s, w, last, out, e)
				}
			}
		}
	}
	if got, want := runAll(api.Machine{}, 0, nil), (ran{stateE: api.ErrKind, outE: api.ErrKind, fromE: api.ErrKind}); !equalRan(got, want) {
		t.Errorf("of the zero machine: %v", got)
	}
}

// plainRun reads P3.1: where a word leads from s, and what is said.
func plainRun(m api.Machine, s int, w []int) (int, []int) {
	if len(w) == 0 {
		if m.Kind == api.Dfa {
			return s, []int{m.Out[s]}
		}
		return s, nil
	}
	way := s*m.K + w[0]
	last, said := plainRun(m, m.Next[way], w[1:])
	if m.Kind == api.Mealy {
		said = append([]int{m.Out[way]}, said...)
	}
	return last, said
}

// small lists machines of all sizes up to 3 symbols, outputs and states, some
// of each: their entries are drawn by a rule from a number.
func small() []api.Machine {
	var l []api.Machine
	seed := uint64(1)
	draw := func(n, below int) []int {
		d := make([]int, n)
		for i := range d {
			seed = seed*6364136223846793005 + 1442695040888963407
			d[i] = int(seed>>33) % below
		}
		return d
	}
	for range 8 {
		for k := 1; k <= 3; k++ {
			for n := 1; n <= 3; n++ {
				l = append(l, api.Machine{Kind: api.Dfa, K: k, O: 2, N: n, Next: draw(n*k, n), Out: draw(n, 2)})
				for o := 1; o <= 3; o++ {
					l = append(l, api.Machine{Kind: api.Mealy, K: k, O: o, N: n, Next: draw(n*k, n), Out: draw(n*k, o)})
				}
			}
		}
	}
	return l
}

// P3.1, P3.3, P3.4, from every state by all short words.
func TestRunsAsPlainlyRead(t *testing.T) {
	for _, m := range small() {
		words, _ := word.All(m.K, 4)
		for _, w := range words {
			for s := range m.N {
				state, out := plainRun(m, 0, w)
				last, said := plainRun(m, s, w)
				want := ran{state: state, out: out, last: last, said: said}
				if got := runAll(m, s, w); !equalRan(got, want) {
					t.Fatalf("%v, from %d by %v: %v, not %v", m, s, w, got, want)
				}
			}
		}
	}
}

// The limits themselves are allowed.
func TestRunsWidest(t *testing.T) {
	for _, kind := range []int{api.Dfa, api.Mealy} {
		m := widest(kind)
		w := make([]int, api.MaxWord)
		for i := range w {
			w[i] = (i*i + 63) % m.K
		}
		state, out := plainRun(m, 0, w)
		last, said := plainRun(m, m.N-1, w)
		want := ran{state: state, out: out, last: last, said: said}
		if got := runAll(m, m.N-1, w); !equalRan(got, want) {
			t.Errorf("kind %d: %v, not %v", kind, got, want)
		}
	}
}

// P3.5.
func TestOneBehindTheOther(t *testing.T) {
	for _, m := range small() {
		words, _ := word.All(m.K, 2)
		for _, a := range words {
			for _, b := range words {
				both := word.Join(a, b)
				mid, first, _ := machine.From(m, 0, a)
				last, second, _ := machine.From(m, mid, b)
				out := second
				if m.Kind == api.Mealy {
					out = word.Join(first, second)
				}
				want := ran{state: last, out: out, last: last, said: out}
				if got := runAll(m, 0, both); !equalRan(got, want) {
					t.Fatalf("%v by %v and %v: %v, not %v", m, a, b, got, want)
				}
			}
		}
	}
}
