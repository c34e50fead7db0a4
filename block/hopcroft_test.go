package block_test

import (
	"slices"
	"testing"

	"tutor/api"
	"tutor/block"
	"tutor/machine"
	"tutor/moore"
	"tutor/word"
)

// P6.4.
func TestHopcroft(t *testing.T) {
	for _, c := range []struct {
		name string
		m    api.Machine
		want []int
	}{
		{"one state", dfa(1, []int{0}, []int{1}), []int{0}},
		{"one state, a Mealy", mealy(3, 5, []int{0, 0, 0}, []int{1, 4, 0}), []int{0}},
		{"two in turn, twice", dfa(1, []int{1, 2, 3, 0}, []int{0, 1, 0, 1}), []int{0, 1, 0, 1}},
		{"all say 0", dfa(1, []int{1, 2, 0}, []int{0, 0, 0}), []int{0, 0, 0}},
		{"all say 1", dfa(2, []int{1, 2, 0, 1, 2, 2}, []int{1, 1, 1}), []int{0, 0, 0}},
		{"all say alike on all ways", mealy(1, 2, []int{1, 2, 0}, []int{1, 1, 1}), []int{0, 0, 0}},
		{"five states", dfa(1, []int{1, 2, 3, 4, 4}, []int{0, 0, 0, 1, 1}), []int{0, 1, 2, 3, 3}},
		{"numbers go by least states, not by what is said", dfa(1, []int{0, 0, 0}, []int{1, 0, 1}), []int{0, 1, 0}},
		{"numbers go by least states, not by when they were made", dfa(1, []int{0, 3, 3, 3, 1}, []int{0, 0, 0, 1, 1}), []int{0, 1, 1, 2, 3}},
		{"a Mealy that tells two ways apart", mealy(1, 2, []int{1, 0}, []int{0, 1}), []int{0, 1}},
		{"a Mealy that says the same, by other symbols", mealy(2, 2, []int{0, 0, 0, 0}, []int{0, 1, 1, 0}), []int{0, 1}},
		{"by the last symbol alone", mealy(3, 2, []int{0, 0, 1, 1, 0, 1}, []int{0, 0, 1, 0, 0, 0}), []int{0, 1}},
		{"the same two states, by other symbols", dfa(2, []int{0, 1, 0, 1, 0, 1, 1, 0}, []int{0, 1, 1, 1}), []int{0, 1, 1, 2}},
		{"acceptor", acceptor(), []int{0, 1, 1, 0}},
		{"transducer", transducer(), []int{0, 1, 2, 1}},
		{"where nobody comes", mealy(1, 3, []int{0, 2, 2}, []int{0, 0, 2}), []int{0, 1, 2}},
	} {
		if got, e := block.Hopcroft(c.m); !slices.Equal(got, c.want) || e != api.OK {
			t.Errorf("%s: %v, %d, not %v", c.name, got, e, c.want)
		}
	}
}

func asMoore(t *testing.T, m api.Machine) {
	t.Helper()
	want, _, _ := moore.Classes(m)
	if got, e := block.Hopcroft(m); !slices.Equal(got, want) || e != api.OK {
		t.Fatalf("%v: %v, %d, not %v", m, got, e, want)
	}
}

// P6.4.
func TestHopcroftAsMoore(t *testing.T) {
	for _, m := range slices.Concat(small(), drawn()) {
		asMoore(t, m)
	}
	for n := 1; n <= 40; n++ {
		for _, k := range []int{1, 2, api.MaxAlphabet} {
			asMoore(t, chain(api.Dfa, n, k))
			asMoore(t, chain(api.Mealy, n, k))
		}
	}
}

// said tells what is said from state s of all words of at most n symbols.
func said(m api.Machine, s, n int) [][]int {
	words, _ := word.All(m.K, n)
	var l [][]int
	for _, w := range words {
		_, out, _ := machine.From(m, s, w)
		l = append(l, out)
	}
	return l
}

// P6.4, as P5.1 reads: words of as many symbols as there are states tell apart
// what can be.
func TestHopcroftAsPlainlyRead(t *testing.T) {
	for _, m := range drawn() {
		if m.N > 7 {
			continue
		}
		var from [][][]int
		var want []int
		count := 0
		for s := range m.N {
			here := said(m, s, m.N)
			least := slices.IndexFunc(from, func(other [][]int) bool {
				return slices.EqualFunc(other, here, slices.Equal[[]int])
			})
			from = append(from, here)
			if least >= 0 {
				want = append(want, want[least])
			} else {
				want = append(want, count)
				count++
			}
		}
		if got, e := block.Hopcroft(m); !slices.Equal(got, want) || e != api.OK {
			t.Fatalf("%v: %v, %d, not %v", m, got, e, want)
		}
	}
}

// numbered gives the numbers of l others: 0, 1, .. as they first come.
func numbered(l []int) []int {
	var seen, named []int
	for _, x := range l {
		if !slices.Contains(seen, x) {
			seen = append(seen, x)
		}
		named = append(named, slices.Index(seen, x))
	}
	return named
}

// The limits themselves are allowed: as many states, symbols and outputs as
// may be, each state alone, and several to a class. 1031 is a prime: by it
// states come in a mixed order.
func TestHopcroftGreatest(t *testing.T) {
	for _, kind := range []int{api.Dfa, api.Mealy} {
		for _, k := range []int{1, 3, api.MaxAlphabet} {
			for _, n := range []int{1, 2, 3, 300, api.MaxStates} {
				of := make([]int, api.MaxStates)
				for s := range of {
					of[s] = s * 617 % 1031 % n
				}
				for o := range n {
					of[len(of)-n+o] = o
				}
				want := numbered(of)
				if got, e := block.Hopcroft(blown(chain(kind, n, k), of)); !slices.Equal(got, want) || e != api.OK {
					t.Errorf("kind %d, %d symbols, as %d states: %v, %d, not %v", kind, k, n, got, e, want)
				}
			}
		}
	}
}

// What one way alone says is seen, at each symbol, up to the greatest output.
func TestHopcroftByOneOutput(t *testing.T) {
	for x := range api.MaxAlphabet {
		for _, o := range []int{1, 2, api.MaxOutputs / 2, api.MaxOutputs - 1} {
			m := mealy(api.MaxAlphabet, api.MaxOutputs, make([]int, 3*api.MaxAlphabet), make([]int, 3*api.MaxAlphabet))
			m.Out[api.MaxAlphabet+x] = o
			if got, e := block.Hopcroft(m); !slices.Equal(got, []int{0, 1, 0}) || e != api.OK {
				t.Fatalf("symbol %d says %d: %v, %d", x, o, got, e)
			}
		}
	}
}

// Where one way alone leads is seen, at each symbol.
func TestHopcroftByOneState(t *testing.T) {
	for x := range api.MaxAlphabet {
		m := dfa(api.MaxAlphabet, make([]int, 4*api.MaxAlphabet), []int{0, 0, 0, 1})
		m.Next[2*m.K+x] = 3
		if got, e := block.Hopcroft(m); !slices.Equal(got, []int{0, 0, 1, 2}) || e != api.OK {
			t.Fatalf("symbol %d: %v, %d", x, got, e)
		}
	}
}

// P6.4: what Check tells, and nothing beside it.
func TestHopcroftWrong(t *testing.T) {
	for _, start := range []func() api.Machine{acceptor, transducer} {
		for _, f := range faults() {
			m := start()
			f.turn(&m)
			if got, e := block.Hopcroft(m); len(got) != 0 || e != f.e {
				t.Errorf("kind %d, %s: %v, %d, not %d", m.Kind, f.name, got, e, f.e)
			}
			if _, e := machine.Check(m); e != f.e {
				t.Errorf("kind %d, %s: Check tells %d, not %d", m.Kind, f.name, e, f.e)
			}
		}
	}
}
