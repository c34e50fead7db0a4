package differ_test

import (
	"slices"
	"testing"

	"tutor/api"
	"tutor/differ"
	"tutor/word"
)

// P7.4.
func TestPairs(t *testing.T) {
	for _, c := range []struct {
		name string
		m    api.Machine
		want [][]int
	}{
		{"one state", dfa(2, []int{0, 0}, []int{1}), nil},
		{"one state of a Mealy", mealy(2, 2, []int{0, 0}, []int{1, 0}), nil},
		{"all are alike", dfa(1, []int{1, 2, 0}, []int{1, 1, 1}), nil},
		{"all are alike, a Mealy", mealy(1, 2, []int{1, 2, 0}, []int{1, 1, 1}), nil},
		{"the empty word alone", dfa(1, []int{1, 0}, []int{0, 1}), [][]int{{}}},
		{"the empty word of several pairs, once", acceptor(), [][]int{{}}},
		{"two words", dfa(1, []int{1, 2, 0}, []int{0, 1, 1}), [][]int{{}, {0}}},
		{"a Mealy has no empty word", mealy(1, 2, []int{1, 0}, []int{0, 1}), [][]int{{0}}},
		{"a Mealy, by both symbols", transducer(), [][]int{{0}, {1}}},
		{"the longer one first, by the states", dfa(1, []int{1, 2, 2}, []int{0, 0, 1}), [][]int{{0}, {}}},
		{"the longest one first", chain(api.Dfa, 4, 1), [][]int{{0, 0}, {0}, {}}},
		{"the longest one first, a Mealy", chain(api.Mealy, 4, 2), [][]int{{0, 0, 1}, {0, 1}, {1}}},
		{"the greater one first, of two as long", mealy(2, 2, []int{0, 0, 1, 1, 2, 2}, []int{0, 0, 0, 1, 1, 0}), [][]int{{1}, {0}}},
		{"by t among the pairs of one s", mealy(3, 2, make([]int, 12), []int{0, 0, 0, 0, 0, 1, 1, 0, 0, 0, 1, 0}), [][]int{{2}, {0}, {1}}},
		{"by s ahead of t", dfa(1, []int{0, 2, 1, 0, 1}, []int{0, 1, 1, 0, 1}), [][]int{{}}},
		{"one that comes first with another s", dfa(1, []int{0, 2, 1, 0, 3}, []int{0, 1, 1, 0, 1}), [][]int{{}, {0}}},
		{"only the first word of each pair", mealy(2, 2, []int{0, 0, 0, 0}, []int{0, 0, 1, 1}), [][]int{{0}}},
		{"where nobody comes", dfa(1, []int{0, 2, 2, 1}, []int{1, 0, 1, 0}), [][]int{{}, {0}}},
	} {
		if got, e := differ.Pairs(c.m); !equalLists(got, c.want) || e != api.OK {
			t.Errorf("%s: %v, %d, not %v", c.name, got, e, c.want)
		}
	}
}

// plainPairs reads P7.4, by the first words of two states.
func plainPairs(n int, first func(s, t int) found) [][]int {
	var l [][]int
	for s := range n {
		for t := s + 1; t < n; t++ {
			f := first(s, t)
			there := slices.ContainsFunc(l, func(w []int) bool { return slices.Equal(w, f.w) })
			if f.apart && !there {
				l = append(l, f.w)
			}
		}
	}
	return l
}

func pairsAre(t *testing.T, m api.Machine, first func(s, t int) found) {
	t.Helper()
	want := plainPairs(m.N, first)
	if got, e := differ.Pairs(m); !equalLists(got, want) || e != api.OK {
		t.Fatalf("%v: %v, %d, not %v", m, got, e, want)
	}
}

func TestPairsAsPlainlyRead(t *testing.T) {
	for _, m := range small() {
		words := wordsUpTo(t, m.K, m.N)
		var says [][][]int
		for s := range m.N {
			says = append(says, said(m, s, words))
		}
		pairsAre(t, m, func(s, u int) found { return firstOf(words, says[s], says[u]) })
	}
}

// P7.4, P7.5.
func TestPairsDrawn(t *testing.T) {
	most, turned := 0, 0
	for _, m := range drawn() {
		first := firsts(m)
		pairsAre(t, m, func(s, u int) found { return foundIn(first, s, u) })
		pairsAre(t, m, func(s, u int) found { return apart(m, s, u) })
		l, _ := differ.Pairs(m)
		most = max(most, len(l))
		if !slices.IsSortedFunc(l, word.Compare) {
			turned++
		}
		for _, w := range l {
			if len(w) > longestOf(m) {
				t.Fatalf("%v: a word of %d symbols", m, len(w))
			}
		}
	}
	if most < 10 || turned < 10 {
		t.Errorf("at most %d words, %d lists in another order than that of words: that tells little", most, turned)
	}
}

// The limits themselves are allowed: as many words as there can be, as long as
// they can be, and several states to a class.
func TestPairsGreatest(t *testing.T) {
	n := api.MaxStates
	for _, k := range []int{1, api.MaxAlphabet} {
		var ofDfa, ofMealy [][]int
		for s := range n - 1 {
			ofDfa = append(ofDfa, make([]int, n-2-s))
			ofMealy = append(ofMealy, append(make([]int, n-2-s), k-1))
		}
		if got, e := differ.Pairs(chain(api.Dfa, n, k)); !equalLists(got, ofDfa) || e != api.OK {
			t.Errorf("a Dfa of %d symbols: %d words, %d", k, len(got), e)
		}
		if got, e := differ.Pairs(chain(api.Mealy, n, k)); !equalLists(got, ofMealy) || e != api.OK {
			t.Errorf("a Mealy of %d symbols: %d words, %d", k, len(got), e)
		}
		if got, e := differ.Pairs(ring(api.Mealy, k, make([]int, n))); len(got) != 0 || e != api.OK {
			t.Errorf("a ring of %d symbols: %d words, %d", k, len(got), e)
		}
		of := make([]int, n)
		for s := range of {
			of[s] = min(s, 299)
		}
		few := chain(api.Dfa, 300, k)
		want, _ := differ.Pairs(few)
		if got, e := differ.Pairs(blown(few, of)); !equalLists(got, want) || len(got) != 299 || e != api.OK {
			t.Errorf("as 300 states, %d symbols: %d words, %d", k, len(got), e)
		}
	}
}

// What one way alone says is seen, at each symbol, up to the greatest output.
func TestPairsByOneOutput(t *testing.T) {
	for x := range api.MaxAlphabet {
		for _, o := range []int{1, 2, api.MaxOutputs - 1} {
			m := mealy(api.MaxAlphabet, api.MaxOutputs, make([]int, 3*api.MaxAlphabet), make([]int, 3*api.MaxAlphabet))
			m.Out[api.MaxAlphabet+x] = o
			if got, e := differ.Pairs(m); !equalLists(got, [][]int{{x}}) || e != api.OK {
				t.Fatalf("symbol %d says %d: %v, %d", x, o, got, e)
			}
			if got := apart(m, 2, 1); !equalFound(got, found{[]int{x}, true, api.OK}) {
				t.Fatalf("symbol %d says %d: %v", x, o, got)
			}
		}
	}
}

// P7.4: what Check tells, and nothing beside it.
func TestPairsWrongMachines(t *testing.T) {
	for _, start := range []func() api.Machine{acceptor, transducer} {
		for _, f := range faults() {
			m := start()
			f.turn(&m)
			if got, e := differ.Pairs(m); len(got) != 0 || e != f.e {
				t.Errorf("kind %d, %s: %v, %d, not %d", m.Kind, f.name, got, e, f.e)
			}
		}
	}
}
