package cover_test

import (
	"math/rand/v2"
	"slices"
	"testing"

	"tutor/api"
	"tutor/machine"
	"tutor/moore"
	"tutor/trim"
)

// follows holds, of a machine, P15.4, and what the chapter calls Marks, Ways
// and States: words of Set, all ways of states, all states.
func follows(t *testing.T, m api.Machine) (unlike int) {
	t.Helper()
	a := ask(m)
	states, _, _ := trim.Reach(m)
	classes, _, _ := moore.Classes(m)
	if len(a.set) > len(states) || len(a.states) != len(states) || len(a.marks) != len(states) {
		t.Fatalf("%v: %d states can be come to: %v", m, len(states), a)
	}
	said := saidOf(m, a.set)
	for i, s := range states {
		for _, w := range a.marks[i] {
			if !slices.ContainsFunc(a.set, same(w)) {
				t.Fatalf("%v, state %d: %v, but Set is %v", m, s, a.marks[i], a.set)
			}
		}
		for j, u := range states {
			if classes[s] == classes[u] {
				continue
			}
			unlike++
			if !parted(a.set, a.set, said, s, u) || !parted(a.marks[i], a.set, said, s, u) || !parted(a.marks[j], a.set, said, s, u) {
				t.Fatalf("%v, states %d and %d: Set %v, Marks %v and %v", m, s, u, a.set, a.marks[i], a.marks[j])
			}
		}
	}
	goesAllWays(t, m, states, a)
	return unlike
}

// saidOf tells what is said of words, from each state.
func saidOf(m api.Machine, words [][]int) (said [][][]int) {
	for s := range m.N {
		var l [][]int
		for _, w := range words {
			_, out, _ := machine.From(m, s, w)
			l = append(l, out)
		}
		said = append(said, l)
	}
	return said
}

// parted tells whether a word of l, which are words of Set, tells s and u
// apart.
func parted(l, set [][]int, said [][][]int, s, u int) bool {
	return slices.ContainsFunc(l, func(w []int) bool {
		at := slices.IndexFunc(set, same(w))
		return !slices.Equal(said[s][at], said[u][at])
	})
}

func goesAllWays(t *testing.T, m api.Machine, states []int, a answers) {
	t.Helper()
	for i, w := range a.states {
		if s, e := machine.State(m, w); s != states[i] || e != api.OK {
			t.Fatalf("%v: %v leads to %d, %d, not to %d", m, w, s, e, states[i])
		}
		for x := range m.K {
			way := append(slices.Clone(w), x)
			if !slices.ContainsFunc(a.ways, same(way)) {
				t.Fatalf("%v: %v is none of %v", m, way, a.ways)
			}
		}
	}
	if len(a.ways) != len(states)*m.K+1 {
		t.Fatalf("%v: %d ways of %d states", m, len(a.ways), len(states))
	}
}

// P15.4.
func TestFollows(t *testing.T) {
	unlike := 0
	for _, c := range cases() {
		unlike += follows(t, c.m)
	}
	for _, m := range drawn() {
		unlike += follows(t, m)
	}
	if unlike < 5000 {
		t.Errorf("%d pairs are not alike: that tells little", unlike)
	}
}

// P15.4: of machines with many states, symbols and outputs.
func TestFollowsGreater(t *testing.T) {
	draw := rand.New(rand.NewPCG(15, 4))
	for _, kind := range []int{api.Dfa, api.Mealy} {
		for _, k := range []int{1, 2, 9} {
			m := drawnMachine(draw, kind, k, 60, 40)
			follows(t, m)
			follows(t, doubled(draw, shuffled(draw, m)))
		}
		follows(t, chain(kind, 40, 3))
	}
	follows(t, mealy(64, 64, drawnList(draw, 64*30, 30), drawnList(draw, 64*30, 64)))
}

// P15.4: of as many states, symbols and outputs as there can be. As each way
// says its state's number by two symbols, there is a word for each of the two
// at most.
func TestFollowsGreatest(t *testing.T) {
	draw := rand.New(rand.NewPCG(15, 5))
	m := mealy(api.MaxAlphabet, api.MaxOutputs, drawnList(draw, api.MaxAlphabet*api.MaxStates, api.MaxStates), make([]int, api.MaxAlphabet*api.MaxStates))
	for s := range m.N {
		m.Next[s*m.K+2] = (s + 1) % m.N
		m.Out[s*m.K], m.Out[s*m.K+63] = s%64, s/64
	}
	a := ask(m)
	if a.e != [4]api.Errno{} || len(a.states) != m.N || len(a.ways) != m.N*m.K+1 {
		t.Fatalf("%d states, %d ways, %v", len(a.states), len(a.ways), a.e)
	}
	both := [][]int{{0}, {63}}
	slices.SortFunc(a.set, slices.Compare)
	if !equalWords(a.set, both) || len(a.marks) != m.N {
		t.Fatalf("%v, %d marks", a.set, len(a.marks))
	}
	for s, l := range a.marks {
		slices.SortFunc(l, slices.Compare)
		if !equalWords(l, both) {
			t.Fatalf("of the state with place %d: %v", s, l)
		}
	}
}
