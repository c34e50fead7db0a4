package trim_test

import (
	"math"
	"slices"
	"testing"

	"tutor/api"
	"tutor/machine"
	"tutor/trim"
	"tutor/word"
)

// saidPerState tells how many numbers of Out are one state's.
func saidPerState(m api.Machine) int {
	if m.Kind == api.Dfa {
		return 1
	}
	return m.K
}

// plainCanon reads P4.3.
func plainCanon(t *testing.T, m api.Machine) api.Machine {
	t.Helper()
	states := plainReach(t, m).states
	c := api.Machine{Kind: m.Kind, K: m.K, O: m.O, N: len(states)}
	for _, s := range states {
		for x := range m.K {
			c.Next = append(c.Next, slices.Index(states, m.Next[s*m.K+x]))
		}
		for y := range saidPerState(m) {
			c.Out = append(c.Out, m.Out[s*saidPerState(m)+y])
		}
	}
	return c
}

// plainTurn reads P4.4.
func plainTurn(m api.Machine, p []int) api.Machine {
	u := m
	u.Next, u.Out = make([]int, len(m.Next)), make([]int, len(m.Out))
	for s := range m.N {
		for x := range m.K {
			u.Next[p[s]*m.K+x] = p[m.Next[s*m.K+x]]
		}
		for y := range saidPerState(m) {
			u.Out[p[s]*saidPerState(m)+y] = m.Out[s*saidPerState(m)+y]
		}
	}
	return u
}

// turns lists all lists by which n states can be turned.
func turns(n int) [][]int {
	l := [][]int{{0}}
	for s := 1; s < n; s++ {
		var longer [][]int
		for _, p := range l {
			for at := 1; at <= s; at++ {
				longer = append(longer, slices.Insert(slices.Clone(p), at, s))
			}
		}
		l = longer
	}
	return l
}

// mixed is a turn of n states that leaves few where they were; n is at most
// 1024, and 1031 is a prime.
func mixed(n int) []int {
	p := []int{0}
	for i := 1; len(p) < n; i++ {
		if s := i * 617 % 1031; s < n && s > 0 {
			p = append(p, s)
		}
	}
	return p
}

// P4.3.
func TestCanon(t *testing.T) {
	for _, c := range []struct {
		name string
		m    api.Machine
		want api.Machine
	}{
		{"the chapter's example", dfa(1, []int{2, 1, 0}, []int{0, 0, 1}), dfa(1, []int{1, 0}, []int{0, 1})},
		{"one state", dfa(1, []int{0}, []int{1}), dfa(1, []int{0}, []int{1})},
		{"one state that says something on each way", mealy(3, 7, []int{0, 0, 0}, []int{6, 0, 3}), mealy(3, 7, []int{0, 0, 0}, []int{6, 0, 3})},
		{"two states, stays", mealy(2, 5, []int{0, 0, 1, 0}, []int{4, 3, 2, 1}), mealy(2, 5, []int{0, 0}, []int{4, 3})},
		{"acceptor", acceptor(), dfa(2, []int{1, 0, 2, 0, 2, 1}, []int{0, 1, 0})},
		{"transducer", transducer(), mealy(2, 9, []int{1, 0, 2, 0, 1, 2}, []int{1, 2, 7, 8, 3, 4})},
		{"an output that only a state says that goes", mealy(1, 64, []int{0, 1}, []int{0, 63}), mealy(1, 64, []int{0}, []int{0})},
		{"states that say alike stay two", dfa(1, []int{1, 0}, []int{1, 1}), dfa(1, []int{1, 0}, []int{1, 1})},
		{"as it should be", chain(5), chain(5)},
	} {
		if got, e := trim.Canon(c.m); !equalMachine(got, c.want) || e != api.OK {
			t.Errorf("%s: %v, %d, not %v", c.name, got, e, c.want)
		}
	}
}

func TestCanonAsPlainlyRead(t *testing.T) {
	for _, m := range slices.Concat(wired(), drawn()) {
		if got, e := trim.Canon(m); !equalMachine(got, plainCanon(t, m)) || e != api.OK {
			t.Fatalf("%v: %v, %d, not %v", m, got, e, plainCanon(t, m))
		}
	}
}

// P4.4.
func TestTurn(t *testing.T) {
	for _, c := range []struct {
		name string
		m    api.Machine
		p    []int
		want api.Machine
	}{
		{"one state", dfa(2, []int{0, 0}, []int{1}), []int{0}, dfa(2, []int{0, 0}, []int{1})},
		{"two states", dfa(1, []int{1, 0}, []int{0, 1}), []int{0, 1}, dfa(1, []int{1, 0}, []int{0, 1})},
		{"as it was", acceptor(), []int{0, 1, 2, 3}, acceptor()},
		{"acceptor, round", acceptor(), []int{0, 3, 1, 2}, dfa(2, []int{1, 0, 2, 0, 2, 1, 3, 3}, []int{0, 1, 0, 1})},
		{"acceptor, round the other way", acceptor(), []int{0, 2, 3, 1}, dfa(2, []int{3, 0, 1, 3, 2, 2, 1, 0}, []int{0, 0, 1, 1})},
		{"transducer, round", transducer(), []int{0, 2, 3, 1}, mealy(2, 9, []int{1, 0, 2, 0, 1, 2, 0, 2}, []int{1, 2, 7, 8, 3, 4, 5, 6})},
		{"states that nobody comes to stay", mealy(1, 4, []int{0, 2, 2, 1}, []int{0, 1, 2, 3}), []int{0, 3, 2, 1}, mealy(1, 4, []int{0, 3, 2, 2}, []int{0, 3, 2, 1})},
	} {
		if got, e := trim.Turn(c.m, c.p); !equalMachine(got, c.want) || e != api.OK {
			t.Errorf("%s: %v, %d, not %v", c.name, got, e, c.want)
		}
	}
}

func TestTurnAsPlainlyRead(t *testing.T) {
	for _, m := range slices.Concat(wired(), drawn()) {
		for _, p := range turns(m.N) {
			if got, e := trim.Turn(m, p); !equalMachine(got, plainTurn(m, p)) || e != api.OK {
				t.Fatalf("%v by %v: %v, %d, not %v", m, p, got, e, plainTurn(m, p))
			}
		}
	}
}

// P4.4, wrong lists.
func TestTurnWrongLists(t *testing.T) {
	for _, m := range []api.Machine{acceptor(), transducer()} {
		for _, p := range [][]int{
			nil,
			{},
			{0},
			{0, 1, 2},
			{0, 1, 2, 3, 4},
			{0, 1, 2, 3, 3},
			{0, 1, 2, 3, 0},
			{1, 0, 2, 3},
			{3, 1, 2, 0},
			{1, 2, 3, 0},
			{-1, 1, 2, 3},
			{0, 0, 1, 2},
			{0, 1, 1, 2},
			{0, 1, 2, 0},
			{0, 3, 3, 3},
			{0, 0, 0, 0},
			{0, 1, 2, 4},
			{0, 4, 2, 3},
			{0, 2, 3, 4},
			{0, 1, 2, -1},
			{0, -3, -2, -1},
			{1, 2, 3, 4},
			{0, 1, 2, math.MaxInt},
			{0, math.MinInt, 2, 1},
		} {
			if u, e := trim.Turn(m, p); !equalMachine(u, api.Machine{}) || e != api.ErrArg {
				t.Errorf("kind %d by %v: %v, %d", m.Kind, p, u, e)
			}
		}
	}
	one := dfa(1, []int{0}, []int{1})
	for _, p := range [][]int{nil, {1}, {-1}, {0, 0}, {0, 1}, make([]int, 1<<20)} {
		if u, e := trim.Turn(one, p); !equalMachine(u, api.Machine{}) || e != api.ErrArg {
			t.Errorf("one state, by a list of %d: %v, %d", len(p), u, e)
		}
	}
}

// P4.4: of all lists of three small numbers, those that are no turn.
func TestTurnListsOfThree(t *testing.T) {
	m := mealy(2, 6, []int{1, 2, 0, 2, 1, 0}, []int{0, 1, 2, 3, 4, 5})
	good := turns(3)
	for a := -1; a <= 3; a++ {
		for b := -1; b <= 3; b++ {
			for c := -1; c <= 3; c++ {
				p := []int{a, b, c}
				want, wantE := api.Machine{}, api.ErrArg
				if slices.ContainsFunc(good, func(g []int) bool { return slices.Equal(g, p) }) {
					want, wantE = plainTurn(m, p), api.OK
				}
				if got, e := trim.Turn(m, p); !equalMachine(got, want) || e != wantE {
					t.Errorf("by %v: %v, %d, not %v, %d", p, got, e, want, wantE)
				}
			}
		}
	}
}

// follows tests P4.5 of m and one turn of it, by the words given.
func follows(t *testing.T, m api.Machine, p []int, words [][]int) {
	t.Helper()
	c, e := trim.Canon(m)
	if _, wrong := machine.Check(c); wrong != api.OK || e != api.OK {
		t.Fatalf("%v: Canon tells %v, %d, and of it Check tells %d", m, c, e, wrong)
	}
	for _, w := range words {
		said, e := machine.Run(m, w)
		canon, canonE := machine.Run(c, w)
		if !slices.Equal(said, canon) || e != canonE {
			t.Fatalf("%v says %v of %v, its Canon %v", m, said, w, canon)
		}
	}
	if again, e := trim.Canon(c); !equalMachine(again, c) || e != api.OK {
		t.Fatalf("%v: Canon of Canon is %v, %d, not %v", m, again, e, c)
	}
	u, e := trim.Turn(m, p)
	if _, wrong := machine.Check(u); wrong != api.OK || e != api.OK {
		t.Fatalf("%v by %v: Turn tells %v, %d, and of it Check tells %d", m, p, u, e, wrong)
	}
	if other, e := trim.Canon(u); !equalMachine(other, c) || e != api.OK {
		t.Fatalf("%v by %v: Canon of the Turn is %v, %d, not %v", m, p, other, e, c)
	}
}

// P4.5.
func TestWhatFollows(t *testing.T) {
	for _, m := range slices.Concat(wired(), drawn()) {
		words, _ := word.All(m.K, 4)
		for _, p := range turns(m.N) {
			follows(t, m, p, words)
		}
	}
}

// P4.5, at the limits.
func TestWhatFollowsWidest(t *testing.T) {
	for _, m := range []api.Machine{chain(api.MaxStates), widest(api.Dfa), widest(api.Mealy)} {
		if got, e := trim.Turn(m, mixed(m.N)); !equalMachine(got, plainTurn(m, mixed(m.N))) || e != api.OK {
			t.Errorf("kind %d, %d symbols: not the Turn, %d", m.Kind, m.K, e)
		}
		if c, e := trim.Canon(m); c.N != api.MaxStates || e != api.OK {
			t.Errorf("kind %d, %d symbols: Canon has %d states, %d", m.Kind, m.K, c.N, e)
		}
		w := make([]int, api.MaxWord)
		for i := range w {
			w[i] = (i*i + 63) % m.K
		}
		follows(t, m, mixed(m.N), [][]int{nil, w[:1], w})
	}
}
