package differ_test

import (
	"maps"
	"slices"
	"testing"

	"tutor/api"
	"tutor/machine"
	"tutor/word"
)

// found is what Separate and Apart tell.
type found struct {
	w     []int
	apart bool
	e     api.Errno
}

func equalFound(a, b found) bool {
	return slices.Equal(a.w, b.w) && a.apart == b.apart && a.e == b.e
}

func equalLists(a, b [][]int) bool {
	return slices.EqualFunc(a, b, slices.Equal[[]int])
}

// wordsUpTo lists the words of at most n symbols, in their order.
func wordsUpTo(t *testing.T, k, n int) [][]int {
	t.Helper()
	words, e := word.All(k, n)
	if e != api.OK {
		t.Fatalf("too many words of at most %d symbols, of %d", n, k)
	}
	return words
}

// said tells what is said of these words from state s.
func said(m api.Machine, s int, words [][]int) [][]int {
	var l [][]int
	for _, w := range words {
		_, out, _ := machine.From(m, s, w)
		l = append(l, out)
	}
	return l
}

// firstOf reads P7.1: the first of these words of which not the same is said.
func firstOf(words, a, b [][]int) found {
	for i, w := range words {
		if !slices.Equal(a[i], b[i]) {
			return found{w, true, api.OK}
		}
	}
	return found{}
}

// firsts tells the first words that tell two states apart, by the states, from
// the shortest words on: those of one length are made of the least symbol that
// leads to two states which are told apart, and of the first word of these. It
// is another way than the program's, for machines that have more states than
// all words can be tried on.
func firsts(m api.Machine) map[[2]int][]int {
	first := map[[2]int][]int{}
	eachTwo(m.N, func(s, t int) {
		if m.Kind == api.Dfa && m.Out[s] != m.Out[t] {
			first[[2]int{s, t}] = nil
		}
	})
	for range m.N {
		longer := maps.Clone(first)
		eachTwo(m.N, func(s, t int) {
			if _, there := first[[2]int{s, t}]; there {
				return
			}
			for x := range m.K {
				from, to := s*m.K+x, t*m.K+x
				if m.Kind == api.Mealy && m.Out[from] != m.Out[to] {
					longer[[2]int{s, t}] = []int{x}
					return
				}
			}
			for x := range m.K {
				if tail, there := first[[2]int{m.Next[s*m.K+x], m.Next[t*m.K+x]}]; there {
					longer[[2]int{s, t}] = word.Join([]int{x}, tail)
					return
				}
			}
		})
		if len(longer) == len(first) {
			break
		}
		first = longer
	}
	return first
}

// eachTwo goes through all states s and t, in both orders.
func eachTwo(n int, do func(s, t int)) {
	for s := range n {
		for t := range n {
			do(s, t)
		}
	}
}

func foundIn(first map[[2]int][]int, s, t int) found {
	w, apart := first[[2]int{s, t}]
	return found{w, apart, api.OK}
}

// joined lays two machines into one table, b's states behind a's.
func joined(a, b api.Machine) api.Machine {
	m := a
	m.N = a.N + b.N
	m.Next = slices.Clone(a.Next)
	for _, s := range b.Next {
		m.Next = append(m.Next, a.N+s)
	}
	m.Out = slices.Concat(a.Out, b.Out)
	return m
}

// The second way to read the chapter is held against the first one.
func TestModel(t *testing.T) {
	for _, m := range slices.Concat(all(api.Dfa, 1, 3), all(api.Dfa, 2, 2), all(api.Mealy, 1, 3), all(api.Mealy, 2, 2)) {
		first := firsts(m)
		words := wordsUpTo(t, m.K, m.N)
		for s := range m.N {
			for u := range m.N {
				want := firstOf(words, said(m, s, words), said(m, u, words))
				if got := foundIn(first, s, u); !equalFound(got, want) {
					t.Fatalf("%v, %d and %d: %v, not %v", m, s, u, got, want)
				}
			}
		}
	}
}
