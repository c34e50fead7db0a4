package moore_test

import (
	"math"
	"slices"
	"testing"

	"tutor/api"
	"tutor/machine"
	"tutor/moore"
	"tutor/word"
)

// wholly is what Classes tells.
type wholly struct {
	classes []int
	rounds  int
	e       api.Errno
}

func classesOf(m api.Machine) (c wholly) {
	c.classes, c.rounds, c.e = moore.Classes(m)
	return c
}

func equalWholly(a, b wholly) bool {
	return slices.Equal(a.classes, b.classes) && a.rounds == b.rounds && a.e == b.e
}

// said tells what is said of all words of at most n symbols from state s.
func said(t *testing.T, m api.Machine, s, n int) [][]int {
	t.Helper()
	words, e := word.All(m.K, n)
	if e != api.OK {
		t.Fatalf("too many words of at most %d symbols, of %d", n, m.K)
	}
	var l [][]int
	for _, w := range words {
		_, out, _ := machine.From(m, s, w)
		l = append(l, out)
	}
	return l
}

// plainAfter reads P5.1: it lists, from n 0 to most, the classes of states
// that are alike up to n.
func plainAfter(t *testing.T, m api.Machine, most int) [][]int {
	t.Helper()
	var from [][][]int
	for s := range m.N {
		from = append(from, said(t, m, s, most))
	}
	var l [][]int
	for n := range most + 1 {
		words, _ := word.Count(m.K, n)
		var least []int // of each state: the least one that is alike
		for s := range m.N {
			least = append(least, slices.IndexFunc(from, func(other [][]int) bool {
				return slices.EqualFunc(other[:words], from[s][:words], slices.Equal[[]int])
			}))
		}
		l = append(l, numbered(least))
	}
	return l
}

// P5.1, P5.2.
func TestAfter(t *testing.T) {
	five := dfa(1, []int{1, 2, 3, 4, 4}, []int{0, 0, 0, 1, 1})
	three := mealy(1, 2, []int{1, 2, 0}, []int{1, 1, 0})
	for _, c := range []struct {
		name string
		m    api.Machine
		n    int
		want []int
	}{
		{"the chapter's example", dfa(1, []int{1, 2, 3, 0}, []int{0, 1, 0, 1}), 0, []int{0, 1, 0, 1}},
		{"one state", dfa(1, []int{0}, []int{1}), 0, []int{0}},
		{"one state, a Mealy", mealy(2, 2, []int{0, 0}, []int{1, 0}), 3, []int{0}},
		{"of the empty word a Dfa says something", five, 0, []int{0, 0, 0, 1, 1}},
		{"by words of one symbol", five, 1, []int{0, 0, 1, 2, 2}},
		{"by words of two symbols", five, 2, []int{0, 1, 2, 3, 3}},
		{"no further", five, 3, []int{0, 1, 2, 3, 3}},
		{"of the empty word a Mealy says nothing", three, 0, []int{0, 0, 0}},
		{"a Mealy, by words of one symbol", three, 1, []int{0, 0, 1}},
		{"a Mealy, by words of two symbols", three, 2, []int{0, 1, 2}},
		{"numbers go by least states, not by what is said", dfa(1, []int{0, 0, 0}, []int{1, 0, 1}), 0, []int{0, 1, 0}},
		{"numbers go by least states in later rounds, too", dfa(1, []int{0, 3, 3, 3, 1}, []int{0, 0, 0, 1, 1}), 1, []int{0, 1, 1, 2, 3}},
		{"acceptor", acceptor(), 1, []int{0, 1, 1, 0}},
		{"transducer", transducer(), 1, []int{0, 1, 2, 1}},
		{"as far as one likes", five, math.MaxInt, []int{0, 1, 2, 3, 3}},
		{"a Mealy, as far as one likes", three, math.MaxInt, []int{0, 1, 2}},
		{"longer than words may be", three, api.MaxWord + 1, []int{0, 1, 2}},
	} {
		if got, e := moore.After(c.m, c.n); !slices.Equal(got, c.want) || e != api.OK {
			t.Errorf("%s: %v, %d, not %v", c.name, got, e, c.want)
		}
	}
}

// P5.2.
func TestClasses(t *testing.T) {
	for _, c := range []struct {
		name   string
		m      api.Machine
		want   []int
		rounds int
	}{
		{"the chapter's example", dfa(1, []int{1, 2, 3, 0}, []int{0, 1, 0, 1}), []int{0, 1, 0, 1}, 0},
		{"one state", dfa(3, []int{0, 0, 0}, []int{1}), []int{0}, 0},
		{"one state, a Mealy", mealy(3, 5, []int{0, 0, 0}, []int{1, 4, 0}), []int{0}, 0},
		{"all say alike", dfa(1, []int{1, 2, 0}, []int{1, 1, 1}), []int{0, 0, 0}, 0},
		{"all say alike on all ways", mealy(1, 2, []int{1, 2, 0}, []int{1, 1, 1}), []int{0, 0, 0}, 0},
		{"a Mealy that tells two ways apart", mealy(1, 2, []int{1, 0}, []int{0, 1}), []int{0, 1}, 1},
		{"a Mealy that says the same, by other symbols", mealy(2, 2, []int{0, 0, 0, 0}, []int{0, 1, 1, 0}), []int{0, 1}, 1},
		{"the same two states, by other symbols", dfa(2, []int{0, 1, 0, 1, 0, 1, 1, 0}, []int{0, 1, 1, 1}), []int{0, 1, 1, 2}, 1},
		{"by the last symbol alone", mealy(3, 2, []int{0, 0, 1, 1, 0, 1}, []int{0, 0, 1, 0, 0, 0}), []int{0, 1}, 1},
		{"a word of three symbols", chain(api.Dfa, 5, 1), []int{0, 1, 2, 3, 4}, 3},
		{"a word of four symbols", chain(api.Mealy, 5, 2), []int{0, 1, 2, 3, 4}, 4},
		{"acceptor", acceptor(), []int{0, 1, 1, 0}, 0},
		{"transducer", transducer(), []int{0, 1, 2, 1}, 1},
		{"where nobody comes", mealy(1, 3, []int{0, 2, 2}, []int{0, 0, 2}), []int{0, 1, 2}, 2},
	} {
		want := wholly{c.want, c.rounds, api.OK}
		if got := classesOf(c.m); !equalWholly(got, want) {
			t.Errorf("%s: %v, not %v", c.name, got, want)
		}
	}
}

// asPlainlyRead holds both calls against P5.1 and P5.2. Words of as many
// symbols as there are states tell apart what can be: a round that splits
// makes a class more.
func asPlainlyRead(t *testing.T, m api.Machine) {
	t.Helper()
	plain := plainAfter(t, m, m.N)
	for n, want := range plain {
		if got, e := moore.After(m, n); !slices.Equal(got, want) || e != api.OK {
			t.Fatalf("%v up to %d: %v, %d, not %v", m, n, got, e, want)
		}
	}
	last := plain[m.N]
	least := slices.IndexFunc(plain, func(c []int) bool { return slices.Equal(c, last) })
	if got := classesOf(m); !equalWholly(got, wholly{last, least, api.OK}) {
		t.Fatalf("%v: %v, not %v, %d", m, got, last, least)
	}
}

func TestClassesAsPlainlyRead(t *testing.T) {
	for _, m := range slices.Concat(small(), drawn()) {
		asPlainlyRead(t, m)
	}
}

// P5.5.
func roundsFollow(t *testing.T, m api.Machine) {
	t.Helper()
	c := classesOf(m)
	if c.rounds < 0 || c.rounds >= m.N {
		t.Fatalf("%v: %d rounds of %d states", m, c.rounds, m.N)
	}
	before, _ := moore.After(m, 0)
	for n := range m.N + 1 {
		behind, _ := moore.After(m, n+1)
		finer(t, m, before, behind)
		if slices.Equal(before, behind) != (n >= c.rounds) {
			t.Fatalf("%v: up to %d %v, up to %d %v, but %d rounds", m, n, before, n+1, behind, c.rounds)
		}
		before = behind
	}
	if !slices.Equal(before, c.classes) {
		t.Fatalf("%v: up to %d %v, in the end %v", m, m.N+1, before, c.classes)
	}
}

func finer(t *testing.T, m api.Machine, coarse, fine []int) {
	t.Helper()
	of := map[int]int{}
	for s, c := range fine {
		if was, there := of[c]; there && was != coarse[s] {
			t.Fatalf("%v: classes %v are not within %v", m, fine, coarse)
		}
		of[c] = coarse[s]
	}
}

func TestRounds(t *testing.T) {
	for _, m := range slices.Concat(small(), drawn()) {
		roundsFollow(t, m)
	}
	for n := 1; n <= 40; n++ {
		roundsFollow(t, chain(api.Dfa, n, 1))
		roundsFollow(t, chain(api.Mealy, n, 2))
	}
}

// The limits themselves are allowed, and take the most rounds there can be.
func TestClassesLongest(t *testing.T) {
	if testing.Short() {
		t.Skip("takes some seconds")
	}
	each := make([]int, api.MaxStates)
	for s := range each {
		each[s] = s
	}
	for _, k := range []int{1, api.MaxAlphabet} {
		if got := classesOf(chain(api.Dfa, api.MaxStates, k)); !equalWholly(got, wholly{each, api.MaxStates - 2, api.OK}) {
			t.Errorf("Dfa of %d symbols: %v", k, got)
		}
		if got := classesOf(chain(api.Mealy, api.MaxStates, k)); !equalWholly(got, wholly{each, api.MaxStates - 1, api.OK}) {
			t.Errorf("Mealy of %d symbols: %v", k, got)
		}
	}
	long := chain(api.Dfa, api.MaxStates, 1)
	for _, n := range []int{0, 1, 500, 1021, 1022, 1023, api.MaxWord, math.MaxInt} {
		want := make([]int, api.MaxStates)
		for s := range want { // those further from the end than n are alike
			want[s] = max(0, s-max(0, api.MaxStates-2-n))
		}
		if got, e := moore.After(long, n); !slices.Equal(got, want) || e != api.OK {
			t.Errorf("up to %d: %v, %d", n, got, e)
		}
	}
}

// spread tells n numbers below some, each of them, in a mixed order; 1031 is a
// prime.
func spread(n, below int) []int {
	of := make([]int, n)
	for s := range of {
		of[s] = s * 617 % 1031 % below
	}
	for o := range below {
		of[n-below+o] = o
	}
	return of
}

// States that are as those of a machine in which none are alike: many classes,
// each with several states.
func TestClassesOfBlown(t *testing.T) {
	for _, kind := range []int{api.Dfa, api.Mealy} {
		for _, k := range []int{1, 3, api.MaxAlphabet} {
			for _, n := range []int{2, 3, 256, 300} {
				of := spread(api.MaxStates, n)
				rounds := n - 1
				if kind == api.Dfa {
					rounds = n - 2
				}
				want := wholly{numbered(of), rounds, api.OK}
				if got := classesOf(blown(chain(kind, n, k), of)); !equalWholly(got, want) {
					t.Errorf("kind %d, %d symbols, as %d states: %v, not %v", kind, k, n, got, want)
				}
			}
		}
	}
}

// What one way alone says is seen, at each symbol, by each output.
func TestClassesByOneOutput(t *testing.T) {
	for x := range api.MaxAlphabet {
		for o := 1; o < api.MaxOutputs; o++ {
			m := mealy(api.MaxAlphabet, api.MaxOutputs, make([]int, 3*api.MaxAlphabet), make([]int, 3*api.MaxAlphabet))
			m.Out[api.MaxAlphabet+x] = o
			if got := classesOf(m); !equalWholly(got, wholly{[]int{0, 1, 0}, 1, api.OK}) {
				t.Fatalf("symbol %d says %d: %v", x, o, got)
			}
		}
	}
}

// twins has as many symbols, outputs and states as may be. Each state says a
// number of its own by its first two ways, but for states 0 and 1, which say
// the same; all lead to the last state.
func twins() api.Machine {
	m := mealy(api.MaxAlphabet, api.MaxOutputs, make([]int, api.MaxStates*api.MaxAlphabet), make([]int, api.MaxStates*api.MaxAlphabet))
	for s := range m.N {
		for x := range m.K {
			m.Next[s*m.K+x] = m.N - 1
		}
		if s > 1 {
			m.Out[s*m.K], m.Out[s*m.K+1] = s%m.O, s/m.O
		}
	}
	return m
}

// Where one way alone leads is seen, at each symbol, though the numbers of the
// states that it leads to have all bits but one in common.
func TestClassesByOneState(t *testing.T) {
	var all, joined []int
	for s := range api.MaxStates {
		all, joined = append(all, s), append(joined, max(0, s-1))
	}
	m := twins()
	if got := classesOf(m); !equalWholly(got, wholly{joined, 1, api.OK}) {
		t.Fatalf("all lead alike: %v", got)
	}
	for x := range api.MaxAlphabet {
		for bit := 1; bit < api.MaxStates; bit *= 2 {
			m.Next[m.K+x] = m.N - 1 - bit
			if got := classesOf(m); !equalWholly(got, wholly{all, 2, api.OK}) {
				t.Fatalf("symbol %d leads to states %d apart: %v", x, bit, got)
			}
		}
		m.Next[m.K+x] = m.N - 1
	}
}

// P5.2: what Check tells comes ahead of ErrArg, and nothing is told beside an
// error.
func TestWrongMachines(t *testing.T) {
	for _, start := range []func() api.Machine{acceptor, transducer} {
		for _, f := range faults() {
			m := start()
			f.turn(&m)
			if got := classesOf(m); !equalWholly(got, wholly{e: f.e}) {
				t.Errorf("kind %d, %s: Classes tells %v", m.Kind, f.name, got)
			}
			for _, n := range []int{math.MinInt, -1, 0, 1, math.MaxInt} {
				if c, e := moore.After(m, n); len(c) != 0 || e != f.e {
					t.Errorf("kind %d, %s: After %d tells %v, %d", m.Kind, f.name, n, c, e)
				}
			}
			if least, e := moore.Minimise(m); !equalMachine(least, api.Machine{}) || e != f.e {
				t.Errorf("kind %d, %s: Minimise tells %v, %d", m.Kind, f.name, least, e)
			}
		}
	}
}

// P5.2.
func TestAfterBelowZero(t *testing.T) {
	for _, m := range []api.Machine{acceptor(), transducer(), dfa(1, []int{0}, []int{0})} {
		for _, n := range []int{-1, -2, math.MinInt} {
			if c, e := moore.After(m, n); len(c) != 0 || e != api.ErrArg {
				t.Errorf("%v after %d: %v, %d", m, n, c, e)
			}
		}
	}
}
