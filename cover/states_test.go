package cover_test

import (
	"reflect"
	"slices"
	"testing"

	"tutor/api"
	"tutor/cover"
	"tutor/word"
)

// The promises name these numbers.
func TestNumbers(t *testing.T) {
	got := []int{api.Dfa, api.Mealy, api.MaxAlphabet, api.MaxStates, api.MaxOutputs}
	if want := []int{1, 2, 64, 1024, 64}; !slices.Equal(got, want) {
		t.Errorf("numbers are %v, not %v", got, want)
	}
	errors := []api.Errno{api.OK, api.ErrArg, api.ErrMany, api.ErrKind, api.ErrShape, api.ErrState, api.ErrOut}
	if want := []api.Errno{0, 1, 3, 30, 31, 32, 33}; !slices.Equal(errors, want) {
		t.Errorf("errors are %v, not %v", errors, want)
	}
}

// The signatures are given: what is built on them must not break.
func TestSignatures(t *testing.T) {
	words := (func(m api.Machine) ([][]int, api.Errno))(nil)
	for _, c := range []struct{ got, want any }{
		{cover.States, words},
		{cover.Ways, words},
		{cover.Set, words},
		{cover.Marks, (func(m api.Machine) ([][][]int, api.Errno))(nil)},
	} {
		if got, want := reflect.TypeOf(c.got), reflect.TypeOf(c.want); got != want {
			t.Errorf("%v, not %v", got, want)
		}
	}
}

// What machine.Check tells, and nothing beside it.
func TestWrongMachines(t *testing.T) {
	for _, start := range []func() api.Machine{acceptor, transducer} {
		if a := ask(start()); a.e != [4]api.Errno{} {
			t.Errorf("what is right: %v", a)
		}
		for _, f := range faults() {
			m := start()
			f.turn(&m)
			a := ask(m)
			if len(a.states)+len(a.ways)+len(a.set)+len(a.marks) != 0 || a.e != [4]api.Errno{f.e, f.e, f.e, f.e} {
				t.Errorf("kind %d, %s: %v, not %d", m.Kind, f.name, a, f.e)
			}
		}
	}
}

// P15.1.
func TestStatesAndWays(t *testing.T) {
	for _, c := range []struct {
		name         string
		m            api.Machine
		states, ways [][]int
	}{
		{"the chapter's example", dfa(1, []int{1, 2, 2}, []int{0, 0, 1}), [][]int{{}, {0}, {0, 0}}, [][]int{{}, {0}, {0, 0}, {0, 0, 0}}},
		{"one state", dfa(1, []int{0}, []int{1}), [][]int{{}}, [][]int{{}, {0}}},
		{"one state, three symbols", mealy(3, 2, []int{0, 0, 0}, []int{1, 0, 1}), [][]int{{}}, [][]int{{}, {0}, {1}, {2}}},
		{"one state that can be come to", dfa(2, []int{0, 0, 0, 1}, []int{1, 0}), [][]int{{}}, [][]int{{}, {0}, {1}}},
		{"not all can be come to", acceptor(), [][]int{{}, {0}, {1}}, [][]int{{}, {0}, {1}, {0, 0}, {0, 1}, {1, 0}, {1, 1}}},
		{"a Mealy", transducer(), [][]int{{}, {0}, {1}}, [][]int{{}, {0}, {1}, {0, 0}, {0, 1}, {1, 0}, {1, 1}}},
		{"states that are alike", mealy(1, 1, []int{1, 2, 0}, []int{0, 0, 0}), [][]int{{}, {0}, {0, 0}}, [][]int{{}, {0}, {0, 0}, {0, 0, 0}}},
		{"only by the last symbol", dfa(2, []int{0, 2, 0, 0, 0, 1}, []int{0, 1, 0}), [][]int{{}, {1}, {1, 1}}, [][]int{{}, {0}, {1}, {1, 0}, {1, 1}, {1, 1, 0}, {1, 1, 1}}},
		{"words of several lengths", mealy(2, 1, []int{1, 2, 0, 3, 2, 2, 3, 3}, make([]int, 8)), [][]int{{}, {0}, {1}, {0, 1}}, [][]int{{}, {0}, {1}, {0, 0}, {0, 1}, {1, 0}, {1, 1}, {0, 1, 0}, {0, 1, 1}}},
	} {
		if got, e := cover.States(c.m); !equalWords(got, c.states) || e != api.OK {
			t.Errorf("%s: States %v, %d, not %v", c.name, got, e, c.states)
		}
		if got, e := cover.Ways(c.m); !equalWords(got, c.ways) || e != api.OK {
			t.Errorf("%s: Ways %v, %d, not %v", c.name, got, e, c.ways)
		}
	}
}

// P15.1: the limits themselves are allowed; Ways may be more than MaxWords.
func TestStatesAndWaysGreatest(t *testing.T) {
	for _, kind := range []int{api.Dfa, api.Mealy} {
		for _, k := range []int{1, api.MaxAlphabet} {
			m := chain(kind, api.MaxStates, k)
			states, e := cover.States(m)
			for n, w := range states {
				if !slices.Equal(w, make([]int, n)) {
					t.Fatalf("kind %d, %d symbols: the word of state %d has %d symbols", kind, k, n, len(w))
				}
			}
			if len(states) != m.N || e != api.OK {
				t.Fatalf("kind %d, %d symbols: %d states, %d", kind, k, len(states), e)
			}
			ways, e := cover.Ways(m)
			if len(ways) != m.N*k+1 || !slices.IsSortedFunc(ways, word.Compare) || e != api.OK {
				t.Fatalf("kind %d, %d symbols: %d ways, %d", kind, k, len(ways), e)
			}
			for i, w := range ways[1:] {
				if len(w) != i/k+1 || w[len(w)-1] != i%k || slices.ContainsFunc(w[:len(w)-1], func(x int) bool { return x != 0 }) {
					t.Fatalf("kind %d, %d symbols: way %d has %d symbols", kind, k, i, len(w))
				}
			}
		}
	}
}
