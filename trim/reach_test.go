package trim_test

import (
	"math"
	"slices"
	"testing"

	"tutor/api"
	"tutor/machine"
	"tutor/trim"
	"tutor/word"
)

// reached is what Reach tells.
type reached struct {
	states []int
	words  [][]int
	e      api.Errno
}

func reach(m api.Machine) (r reached) {
	r.states, r.words, r.e = trim.Reach(m)
	return r
}

func equalReached(a, b reached) bool {
	return slices.Equal(a.states, b.states) && slices.EqualFunc(a.words, b.words, slices.Equal[[]int]) && a.e == b.e
}

func equalMachine(a, b api.Machine) bool {
	return a.Kind == b.Kind && a.K == b.K && a.O == b.O && a.N == b.N && slices.Equal(a.Next, b.Next) && slices.Equal(a.Out, b.Out)
}

func dfa(k int, next, out []int) api.Machine {
	return api.Machine{Kind: api.Dfa, K: k, O: 2, N: len(out), Next: next, Out: out}
}

func mealy(k, o int, next, out []int) api.Machine {
	return api.Machine{Kind: api.Mealy, K: k, O: o, N: len(next) / k, Next: next, Out: out}
}

// acceptor has a state, 1, that no word leads to from state 0.
func acceptor() api.Machine {
	return dfa(2, []int{2, 0, 1, 1, 3, 0, 3, 2}, []int{0, 1, 1, 0})
}

// transducer has a state, 2, that no word leads to from state 0.
func transducer() api.Machine {
	return mealy(2, 9, []int{3, 0, 3, 1, 0, 1, 1, 0}, []int{1, 2, 3, 4, 5, 6, 7, 8})
}

// chain leads from each state to the one behind it; the last one stays.
func chain(n int) api.Machine {
	m := dfa(1, nil, make([]int, n))
	for s := range n {
		m.Next = append(m.Next, min(s+1, n-1))
		m.Out[s] = s % 3 % 2
	}
	return m
}

// widest has as many symbols, outputs and states as may be, and comes to all.
func widest(kind int) api.Machine {
	m := api.Machine{Kind: kind, K: api.MaxAlphabet, O: api.MaxOutputs, N: api.MaxStates}
	for i := range m.K * m.N {
		m.Next = append(m.Next, (i*7+i/m.K+1)%m.N)
		m.Out = append(m.Out, (i*5+i/m.K)%m.O)
	}
	if kind == api.Dfa {
		m.O = 2
		m.Out = m.Out[:m.N:m.N]
		for s := range m.N {
			m.Out[s] %= 2
		}
	}
	return m
}

// drawn lists machines of several sizes: their entries are drawn by a rule
// from a number. In some of them the ways lead to few of the states.
func drawn() []api.Machine {
	var l []api.Machine
	seed := uint64(4)
	draw := func(n, below int) []int {
		d := make([]int, n)
		for i := range d {
			seed = seed*6364136223846793005 + 1442695040888963407
			d[i] = int(seed>>33) % below
		}
		return d
	}
	for range 6 {
		for k := 1; k <= 3; k++ {
			for n := 1; n <= 5; n++ {
				for few := 1; few <= n; few++ {
					l = append(l, dfa(k, draw(n*k, few), draw(n, 2)))
					l = append(l, mealy(k, 3, draw(n*k, few), draw(n*k, 3)))
				}
				l = append(l, mealy(k, 64, draw(n*k, n), draw(n*k, 64)))
			}
		}
	}
	return l
}

// allNext lists all Next lists of n states over k symbols.
func allNext(n, k int) [][]int {
	l := [][]int{nil}
	for range n * k {
		var longer [][]int
		for _, next := range l {
			for s := range n {
				longer = append(longer, word.Join(next, []int{s}))
			}
		}
		l = longer
	}
	return l
}

// wired lists a machine for each way in which few states can lead to each
// other; what each state says is told from what the others say where that can
// be.
func wired() []api.Machine {
	var l []api.Machine
	for _, size := range [][2]int{{1, 1}, {1, 2}, {1, 3}, {2, 1}, {2, 2}, {2, 3}, {3, 1}, {3, 2}, {4, 1}} {
		n, k := size[0], size[1]
		said := make([]int, n*k)
		for i := range said {
			said[i] = i
		}
		for _, next := range allNext(n, k) {
			l = append(l, dfa(k, next, []int{0, 1, 1, 0}[:n]))
			l = append(l, mealy(k, 64, next, said))
		}
	}
	return l
}

// plainReach reads P4.1 and P4.2: it goes through the words in their order. A
// state's access word comes to no state twice, so it is shorter than N.
func plainReach(t *testing.T, m api.Machine) (r reached) {
	t.Helper()
	words, e := word.All(m.K, m.N-1)
	if e != api.OK {
		t.Fatalf("too many words of at most %d symbols, of %d", m.N-1, m.K)
	}
	for _, w := range words {
		s, _ := machine.State(m, w)
		if !slices.Contains(r.states, s) {
			r.states = append(r.states, s)
			r.words = append(r.words, w)
		}
	}
	return r
}

// P4.1, P4.2.
func TestReach(t *testing.T) {
	for _, c := range []struct {
		name   string
		m      api.Machine
		states []int
		words  [][]int
	}{
		{"the chapter's example", dfa(1, []int{2, 1, 0}, []int{0, 1, 1}), []int{0, 2}, [][]int{nil, {0}}},
		{"one state", dfa(1, []int{0}, []int{1}), []int{0}, [][]int{nil}},
		{"one state, three symbols", dfa(3, []int{0, 0, 0}, []int{1}), []int{0}, [][]int{nil}},
		{"two states, stays", dfa(2, []int{0, 0, 0, 0}, []int{0, 1}), []int{0}, [][]int{nil}},
		{"two states, by symbol 1", dfa(2, []int{0, 1, 0, 0}, []int{0, 1}), []int{0, 1}, [][]int{nil, {1}}},
		{"two states, by both symbols", dfa(2, []int{1, 1, 0, 0}, []int{0, 1}), []int{0, 1}, [][]int{nil, {0}}},
		{"acceptor", acceptor(), []int{0, 2, 3}, [][]int{nil, {0}, {0, 0}}},
		{"transducer", transducer(), []int{0, 3, 1}, [][]int{nil, {0}, {0, 0}}},
		{"a shorter word with greater symbols is ahead", dfa(2, []int{1, 3, 1, 2, 3, 3, 2, 2}, []int{0, 0, 0, 0}), []int{0, 1, 3, 2}, [][]int{nil, {0}, {1}, {0, 1}}},
		{"the lesser symbol is ahead, not the lesser state", dfa(3, []int{3, 2, 1, 1, 1, 1, 2, 2, 2, 3, 3, 3}, []int{0, 0, 0, 0}), []int{0, 3, 2, 1}, [][]int{nil, {0}, {1}, {2}}},
		{"by the word ahead, not by the lesser symbol at its end", dfa(2, []int{1, 2, 1, 3, 3, 2, 3, 3}, []int{0, 0, 0, 0}), []int{0, 1, 2, 3}, [][]int{nil, {0}, {1}, {0, 1}}},
		{"leads to state 0 only from where nobody comes", mealy(1, 2, []int{0, 0, 1}, []int{0, 1, 1}), []int{0}, [][]int{nil}},
		{"a chain", chain(4), []int{0, 1, 2, 3}, [][]int{nil, {0}, {0, 0}, {0, 0, 0}}},
	} {
		want := reached{c.states, c.words, api.OK}
		if got := reach(c.m); !equalReached(got, want) {
			t.Errorf("%s: %v, not %v", c.name, got, want)
		}
	}
}

func TestReachAsPlainlyRead(t *testing.T) {
	for _, m := range slices.Concat(wired(), drawn()) {
		if got, want := reach(m), plainReach(t, m); !equalReached(got, want) {
			t.Fatalf("%v: %v, not %v", m, got, want)
		}
	}
}

// The limits themselves are allowed.
func TestReachWidest(t *testing.T) {
	long := reach(chain(api.MaxStates))
	if len(long.states) != api.MaxStates || len(long.words) != api.MaxStates || long.e != api.OK {
		t.Fatalf("%d states, %d words, %d", len(long.states), len(long.words), long.e)
	}
	for i := range api.MaxStates {
		if long.states[i] != i || !slices.Equal(long.words[i], make([]int, i)) {
			t.Fatalf("state %d has the word %v", long.states[i], long.words[i])
		}
	}
	for _, kind := range []int{api.Dfa, api.Mealy} {
		r := reach(widest(kind))
		if len(r.states) != api.MaxStates || len(r.words) != api.MaxStates || r.e != api.OK {
			t.Errorf("kind %d: %d states, %d words, %d", kind, len(r.states), len(r.words), r.e)
		}
		followsFromReach(t, widest(kind), r)
	}
}

// followsFromReach tests P4.6, and P4.2's order.
func followsFromReach(t *testing.T, m api.Machine, r reached) {
	t.Helper()
	for i, w := range r.words {
		if s, _ := machine.State(m, w); s != r.states[i] {
			t.Fatalf("%v: %v leads to %d, not to %d", m, w, s, r.states[i])
		}
		if i > 0 && word.Compare(r.words[i-1], w) != -1 {
			t.Fatalf("%v: %v does not come ahead of %v", m, r.words[i-1], w)
		}
		for n := range len(w) {
			if _, there := slices.BinarySearchFunc(r.words, w[:n], word.Compare); !there {
				t.Fatalf("%v: %v, a beginning of %v, is no access word", m, w[:n], w)
			}
		}
	}
}

// P4.6.
func TestBeginningsOfAccessWords(t *testing.T) {
	for _, m := range slices.Concat(wired(), drawn()) {
		r := reach(m)
		followsFromReach(t, m, r)
		words, _ := word.All(m.K, m.N)
		for _, w := range words {
			s, _ := machine.State(m, w)
			i := slices.Index(r.states, s)
			if i < 0 || word.Compare(w, r.words[i]) < 0 {
				t.Fatalf("%v: %v leads to state %d, ahead of its access word", m, w, s)
			}
		}
	}
}

type fault struct {
	name string
	turn func(m *api.Machine)
	e    api.Errno
}

// faults lists what Check tells of acceptor or transducer turned so.
func faults() []fault {
	return []fault{
		{"the zero machine", func(m *api.Machine) { *m = api.Machine{} }, api.ErrKind},
		{"kind 0", func(m *api.Machine) { m.Kind = 0 }, api.ErrKind},
		{"kind 3", func(m *api.Machine) { m.Kind = 3 }, api.ErrKind},
		{"kind greatest", func(m *api.Machine) { m.Kind = math.MaxInt }, api.ErrKind},
		{"K 0", func(m *api.Machine) { m.K = 0 }, api.ErrArg},
		{"K -1", func(m *api.Machine) { m.K = -1 }, api.ErrArg},
		{"K 65", func(m *api.Machine) { m.K = 65 }, api.ErrArg},
		{"O 0", func(m *api.Machine) { m.O = 0 }, api.ErrOut},
		{"O 65", func(m *api.Machine) { m.O = 65 }, api.ErrOut},
		{"N 0", func(m *api.Machine) { m.N = 0 }, api.ErrMany},
		{"N 0 and no lists", func(m *api.Machine) { m.N, m.Next, m.Out = 0, nil, nil }, api.ErrMany},
		{"N -1", func(m *api.Machine) { m.N = -1 }, api.ErrMany},
		{"N 1025", func(m *api.Machine) { m.N = 1025 }, api.ErrMany},
		{"N greatest", func(m *api.Machine) { m.N = math.MaxInt }, api.ErrMany},
		{"N 3", func(m *api.Machine) { m.N = 3 }, api.ErrShape},
		{"no lists", func(m *api.Machine) { m.Next, m.Out = nil, nil }, api.ErrShape},
		{"Next too short", func(m *api.Machine) { m.Next = m.Next[:7] }, api.ErrShape},
		{"Next too long", func(m *api.Machine) { m.Next = append(m.Next, 0) }, api.ErrShape},
		{"Out too short", func(m *api.Machine) { m.Out = m.Out[1:] }, api.ErrShape},
		{"Out too long", func(m *api.Machine) { m.Out = append(m.Out, 0) }, api.ErrShape},
		{"Next's first", func(m *api.Machine) { m.Next[0] = 4 }, api.ErrState},
		{"Next's last", func(m *api.Machine) { m.Next[7] = -1 }, api.ErrState},
		{"Next, where nobody comes", func(m *api.Machine) { m.Next[2], m.Next[4] = 4, 4 }, api.ErrState},
		{"Out's first", func(m *api.Machine) { m.Out[0] = 9 }, api.ErrOut},
		{"Out's last", func(m *api.Machine) { m.Out[len(m.Out)-1] = -1 }, api.ErrOut},
		{"Next and Out", func(m *api.Machine) { m.Next[7], m.Out[0] = 9, 9 }, api.ErrState},
	}
}

// P4.2, P4.3, P4.4: what Check tells comes ahead of all else, and nothing is
// told beside it.
func TestWrongMachines(t *testing.T) {
	zero := api.Machine{}
	for _, start := range []func() api.Machine{acceptor, transducer} {
		for _, f := range faults() {
			m := start()
			f.turn(&m)
			if got := reach(m); !equalReached(got, reached{e: f.e}) {
				t.Errorf("kind %d, %s: Reach tells %v", m.Kind, f.name, got)
			}
			if c, got := trim.Canon(m); !equalMachine(c, zero) || got != f.e {
				t.Errorf("kind %d, %s: Canon tells %v, %d", m.Kind, f.name, c, got)
			}
			for _, p := range [][]int{nil, {0}, {0, 1, 2, 3}, {0, 3, 2, 1}, {1, 0, 2, 3}, {0, 1, 1, 2}, {0, 9, -9, 1}} {
				if u, got := trim.Turn(m, p); !equalMachine(u, zero) || got != f.e {
					t.Errorf("kind %d, %s: Turn by %v tells %v, %d", m.Kind, f.name, p, u, got)
				}
			}
		}
	}
}
