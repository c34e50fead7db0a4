package differ_test

import (
	"math"
	"slices"
	"testing"

	"tutor/api"
	"tutor/differ"
	"tutor/machine"
	"tutor/moore"
)

func apart(m api.Machine, s, t int) (f found) {
	f.w, f.apart, f.e = differ.Apart(m, s, t)
	return f
}

// small lists all machines of few states and symbols.
func small() []api.Machine {
	return slices.Concat(all(api.Dfa, 1, 4), all(api.Dfa, 2, 3), all(api.Dfa, 3, 2), all(api.Mealy, 1, 4), all(api.Mealy, 2, 2), all(api.Mealy, 3, 1))
}

// P7.1, P7.3.
func TestApart(t *testing.T) {
	two := dfa(1, []int{1, 0}, []int{0, 1})
	three := dfa(1, []int{1, 2, 0}, []int{0, 1, 1})
	mixed := dfa(2, []int{0, 1, 2, 3, 4, 4, 4, 0, 4, 4}, []int{0, 0, 0, 0, 1})
	for _, c := range []struct {
		name string
		m    api.Machine
		s, t int
		want found
	}{
		{"the chapter's example", two, 0, 1, found{nil, true, api.OK}},
		{"one symbol", three, 1, 2, found{[]int{0}, true, api.OK}},
		{"the same state", two, 0, 0, found{}},
		{"the same state, which says 1", two, 1, 1, found{}},
		{"the same state of a Mealy", transducer(), 2, 2, found{}},
		{"the one state", dfa(1, []int{0}, []int{1}), 0, 0, found{}},
		{"the one state of a Mealy", mealy(1, 2, []int{0}, []int{1}), 0, 0, found{}},
		{"states that are alike", acceptor(), 0, 3, found{}},
		{"others that are alike", acceptor(), 1, 2, found{}},
		{"states of a Mealy that are alike", transducer(), 1, 3, found{}},
		{"where nobody comes", acceptor(), 1, 3, found{nil, true, api.OK}},
		{"a Mealy says nothing of the empty word", transducer(), 0, 1, found{[]int{0}, true, api.OK}},
		{"a Mealy, the second symbol", transducer(), 0, 2, found{[]int{1}, true, api.OK}},
		{"a Mealy, behind a way that says the same", mealy(1, 3, []int{0, 2, 2}, []int{0, 0, 2}), 0, 1, found{[]int{0, 0}, true, api.OK}},
		{"the least symbol of several", mixed, 0, 2, found{[]int{0}, true, api.OK}},
		{"the shorter one is ahead", mixed, 1, 3, found{[]int{0}, true, api.OK}},
		{"of two as long the lesser one", mixed, 0, 1, found{[]int{0, 0}, true, api.OK}},
		{"states that lead to one another", dfa(1, []int{1, 0, 0}, []int{0, 0, 1}), 0, 1, found{}},
		{"states that lead to themselves", dfa(2, []int{0, 0, 1, 1}, []int{1, 1}), 0, 1, found{}},
	} {
		if got := apart(c.m, c.s, c.t); !equalFound(got, c.want) {
			t.Errorf("%s: %v, not %v", c.name, got, c.want)
		}
		if got := apart(c.m, c.t, c.s); !equalFound(got, c.want) {
			t.Errorf("%s, turned round: %v, not %v", c.name, got, c.want)
		}
	}
}

// P7.1, P7.3: all words are tried that can be needed (P7.5).
func TestApartAsPlainlyRead(t *testing.T) {
	for _, m := range small() {
		words := wordsUpTo(t, m.K, m.N)
		var says [][][]int
		for s := range m.N {
			says = append(says, said(m, s, words))
		}
		eachTwo(m.N, func(s, u int) {
			want := firstOf(words, says[s], says[u])
			if got := apart(m, s, u); !equalFound(got, want) {
				t.Fatalf("%v, %d and %d: %v, not %v", m, s, u, got, want)
			}
		})
	}
}

// P7.3, P7.5: what is found is held against another way to find it, against
// what is said, and against the classes of states that are alike.
func TestApartDrawn(t *testing.T) {
	longest := 0
	for _, m := range drawn() {
		first := firsts(m)
		classes, _, _ := moore.Classes(m)
		eachTwo(m.N, func(s, u int) {
			got := apart(m, s, u)
			if want := foundIn(first, s, u); !equalFound(got, want) {
				t.Fatalf("%v, %d and %d: %v, not %v", m, s, u, got, want)
			}
			_, saidFromS, _ := machine.From(m, s, got.w)
			_, saidFromU, _ := machine.From(m, u, got.w)
			if slices.Equal(saidFromS, saidFromU) == got.apart {
				t.Fatalf("%v, %d and %d: %v, but %v and %v are said", m, s, u, got, saidFromS, saidFromU)
			}
			if got.apart != (classes[s] != classes[u]) {
				t.Fatalf("%v, %d and %d: %v, but the classes are %v", m, s, u, got, classes)
			}
			if most := longestOf(m); len(got.w) > most {
				t.Fatalf("%v, %d and %d: a word of %d symbols, more than %d", m, s, u, len(got.w), most)
			}
			longest = max(longest, len(got.w))
		})
	}
	if longest < 8 {
		t.Errorf("no word has more than %d symbols: that tells little", longest)
	}
}

// longestOf is P7.5's bound for two states.
func longestOf(m api.Machine) int {
	if m.Kind == api.Dfa {
		return m.N - 1
	}
	return m.N
}

// The limits themselves are allowed, and the words are as long as they can be.
func TestApartLongest(t *testing.T) {
	for _, k := range []int{1, 2, api.MaxAlphabet} {
		for _, n := range []int{2, 3, 10, api.MaxStates} {
			if got := apart(chain(api.Dfa, n, k), 0, 1); !equalFound(got, found{make([]int, n-2), true, api.OK}) {
				t.Errorf("a Dfa of %d states, %d symbols: %v", n, k, got)
			}
			want := append(make([]int, n-2), k-1)
			if got := apart(chain(api.Mealy, n, k), 1, 0); !equalFound(got, found{want, true, api.OK}) {
				t.Errorf("a Mealy of %d states, %d symbols: %v", n, k, got)
			}
		}
		same := ring(api.Mealy, k, make([]int, api.MaxStates))
		if got := apart(same, 1023, 512); !equalFound(got, found{}) {
			t.Errorf("a ring, %d symbols: %v", k, got)
		}
	}
}

// P7.3: the machine's error comes first.
func TestApartWrongMachines(t *testing.T) {
	for _, start := range []func() api.Machine{acceptor, transducer} {
		for _, f := range faults() {
			m := start()
			f.turn(&m)
			for _, s := range []int{0, 1, -1, 4, math.MaxInt} {
				if got := apart(m, s, 0); !equalFound(got, found{e: f.e}) {
					t.Errorf("kind %d, %s, %d and 0: %v", m.Kind, f.name, s, got)
				}
				if got := apart(m, 0, s); !equalFound(got, found{e: f.e}) {
					t.Errorf("kind %d, %s, 0 and %d: %v", m.Kind, f.name, s, got)
				}
			}
		}
	}
}

// P7.3.
func TestApartWrongStates(t *testing.T) {
	for _, m := range []api.Machine{acceptor(), transducer(), chain(api.Dfa, 4, 1)} {
		wrong := []int{-1, -4, 4, 5, 1024, math.MinInt, math.MaxInt}
		for _, s := range wrong {
			for _, u := range slices.Concat(wrong, []int{0, 1, 3}) {
				if got := apart(m, s, u); !equalFound(got, found{e: api.ErrState}) {
					t.Errorf("%v, %d and %d: %v", m, s, u, got)
				}
				if got := apart(m, u, s); !equalFound(got, found{e: api.ErrState}) {
					t.Errorf("%v, %d and %d: %v", m, u, s, got)
				}
			}
		}
		if got := apart(m, 3, 3); !equalFound(got, found{}) {
			t.Errorf("%v, the last state twice: %v", m, got)
		}
	}
}
