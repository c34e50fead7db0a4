package moore_test

import (
	"slices"
	"strconv"
	"testing"

	"tutor/api"
	"tutor/machine"
	"tutor/moore"
	"tutor/trim"
	"tutor/word"
)

// plainMinimise reads P5.3, by the classes of P5.1.
func plainMinimise(t *testing.T, m api.Machine) api.Machine {
	t.Helper()
	classes := plainAfter(t, m, m.N)[m.N]
	q := api.Machine{Kind: m.Kind, K: m.K, O: m.O, N: slices.Max(classes) + 1}
	for c := range q.N {
		s := slices.Index(classes, c)
		for x := range m.K {
			q.Next = append(q.Next, classes[m.Next[s*m.K+x]])
		}
		q.Out = append(q.Out, m.Out[s*saidPerState(m):(s+1)*saidPerState(m)]...)
	}
	canon, e := trim.Canon(q)
	if e != api.OK {
		t.Fatalf("%v: Canon of its classes: %d", m, e)
	}
	return canon
}

// P5.3.
func TestMinimise(t *testing.T) {
	for _, c := range []struct {
		name string
		m    api.Machine
		want api.Machine
	}{
		{"the chapter's example", dfa(1, []int{1, 2, 3, 0}, []int{0, 1, 0, 1}), dfa(1, []int{1, 0}, []int{0, 1})},
		{"one state", dfa(1, []int{0}, []int{1}), dfa(1, []int{0}, []int{1})},
		{"one state that says something on each way", mealy(3, 7, []int{0, 0, 0}, []int{6, 0, 3}), mealy(3, 7, []int{0, 0, 0}, []int{6, 0, 3})},
		{"all say alike", dfa(2, []int{1, 2, 0, 1, 2, 2}, []int{1, 1, 1}), dfa(2, []int{0, 0}, []int{1})},
		{"five states", dfa(1, []int{1, 2, 3, 4, 4}, []int{0, 0, 0, 1, 1}), dfa(1, []int{1, 2, 3, 3}, []int{0, 0, 0, 1})},
		{"acceptor", acceptor(), dfa(2, []int{1, 0, 1, 0}, []int{0, 1})},
		{"transducer", transducer(), mealy(2, 9, []int{1, 0, 2, 1, 1, 2}, []int{1, 2, 3, 8, 1, 4})},
		{"where nobody comes", mealy(1, 5, []int{0, 2, 1}, []int{4, 3, 2}), mealy(1, 5, []int{0}, []int{4})},
		{"alike to one where nobody comes", dfa(1, []int{2, 3, 3, 0}, []int{0, 1, 1, 0}), dfa(1, []int{1, 2, 0}, []int{0, 1, 0})},
		{"numbered by access words, not by least states", dfa(2, []int{2, 1, 1, 1, 0, 2}, []int{0, 1, 1}), dfa(2, []int{1, 2, 0, 1, 2, 2}, []int{0, 1, 1})},
		{"outputs that nobody says stay possible", mealy(1, 64, []int{1, 0}, []int{0, 0}), mealy(1, 64, []int{0}, []int{0})},
		{"as it should be", chain(api.Mealy, 5, 1), chain(api.Mealy, 5, 1)},
	} {
		if got, e := moore.Minimise(c.m); !equalMachine(got, c.want) || e != api.OK {
			t.Errorf("%s: %v, %d, not %v", c.name, got, e, c.want)
		}
	}
}

func TestMinimiseAsPlainlyRead(t *testing.T) {
	for _, m := range slices.Concat(small(), drawn()) {
		if got, e := moore.Minimise(m); !equalMachine(got, plainMinimise(t, m)) || e != api.OK {
			t.Fatalf("%v: %v, %d, not %v", m, got, e, plainMinimise(t, m))
		}
	}
}

// isLeast tests what P5.4 says of one machine and what it is minimised to: no
// two states are alike, each can be come to, and it is minimised already.
func isLeast(t *testing.T, m, least api.Machine) {
	t.Helper()
	if _, e := machine.Check(least); e != api.OK {
		t.Fatalf("%v: Minimise tells %v, and of it Check tells %d", m, least, e)
	}
	if c := classesOf(least); slices.Max(c.classes) != least.N-1 {
		t.Fatalf("%v: Minimise tells %v, with alike states: %v", m, least, c.classes)
	}
	if states, _, _ := trim.Reach(least); len(states) != least.N {
		t.Fatalf("%v: Minimise tells %v, and it comes to %v alone", m, least, states)
	}
	if again, e := moore.Minimise(least); !equalMachine(again, least) || e != api.OK {
		t.Fatalf("%v: Minimise tells %v, and of it %v, %d", m, least, again, e)
	}
}

// language tells, as one text, what is said of all words of at most n symbols.
func language(t *testing.T, m api.Machine, n int) string {
	t.Helper()
	var b []byte
	for _, out := range said(t, m, 0, n) {
		for _, o := range out {
			b = append(strconv.AppendInt(b, int64(o), 10), ' ')
		}
	}
	return string(b)
}

// P5.4: of all machines of at most so many states, those that say the same of
// all words come to the same one, it says it, too, and it has as few states as
// the one with the fewest. Machines are told apart by a word that has fewer
// symbols than both have states together.
func TestLeastOfAll(t *testing.T) {
	for _, c := range []struct{ kind, k, states int }{
		{api.Dfa, 1, 4}, {api.Dfa, 2, 3}, {api.Dfa, 3, 2}, {api.Mealy, 1, 4}, {api.Mealy, 2, 2}, {api.Mealy, 3, 2},
	} {
		first := map[string]api.Machine{}
		for n := 1; n <= c.states; n++ {
			for _, m := range all(c.kind, c.k, n) {
				says := language(t, m, 2*c.states-1)
				least, e := moore.Minimise(m)
				if e != api.OK || language(t, least, 2*c.states-1) != says {
					t.Fatalf("%v: Minimise tells %v, %d: not what it says", m, least, e)
				}
				was, there := first[says]
				if !there {
					isLeast(t, m, least)
					// As machines come with ever more states, this one has the fewest.
					if least.N != n {
						t.Fatalf("%v: Minimise tells %v, but no machine with fewer states says that", m, least)
					}
					first[says] = least
				} else if !equalMachine(was, least) {
					t.Fatalf("%v: Minimise tells %v, but of one that says the same %v", m, least, was)
				}
			}
		}
	}
}

// P5.4, of machines that are drawn, and turned.
func TestLeastOfDrawn(t *testing.T) {
	for _, m := range drawn() {
		least, e := moore.Minimise(m)
		if e != api.OK || language(t, least, 5) != language(t, m, 5) {
			t.Fatalf("%v: Minimise tells %v, %d: not what it says", m, least, e)
		}
		isLeast(t, m, least)
		p := []int{0}
		for s := m.N - 1; s > 0; s-- {
			p = append(p, s)
		}
		turned, _ := trim.Turn(m, p)
		if other, e := moore.Minimise(turned); !equalMachine(other, least) || e != api.OK {
			t.Fatalf("%v turned: %v, %d, not %v", m, other, e, least)
		}
	}
}

// P5.4, at the limits: a machine in which none are alike comes out of one that
// says the same with more states.
func TestLeastOfBlown(t *testing.T) {
	if testing.Short() {
		t.Skip("takes some seconds")
	}
	for _, kind := range []int{api.Dfa, api.Mealy} {
		for _, k := range []int{1, api.MaxAlphabet} {
			for _, n := range []int{1, 2, 3, 257, 1023} {
				m := chain(kind, n, k)
				of := spread(api.MaxStates, n)
				of[slices.Index(of, 0)], of[0] = of[0], 0
				b := blown(m, of)
				if got, e := moore.Minimise(b); !equalMachine(got, m) || e != api.OK {
					t.Errorf("kind %d, %d symbols, as %d states: %d states, %d", kind, k, n, got.N, e)
				}
			}
			whole := chain(kind, api.MaxStates, k)
			if got, e := moore.Minimise(whole); !equalMachine(got, whole) || e != api.OK {
				t.Errorf("kind %d, %d symbols: %d states, %d", kind, k, got.N, e)
			}
		}
	}
}

// P5.4, by words as long as may be.
func TestLeastSaysLongWords(t *testing.T) {
	for _, kind := range []int{api.Dfa, api.Mealy} {
		ring := chain(kind, 300, 3)
		for x := range 2 {
			ring.Next[len(ring.Next)-1-x] = x * 7
		}
		of := spread(api.MaxStates, 300)
		b := blown(ring, of)
		least, e := moore.Minimise(b)
		if e != api.OK {
			t.Fatalf("kind %d: %d", kind, e)
		}
		isLeast(t, b, least)
		w := make([]int, api.MaxWord)
		for i := range w {
			w[i] = (i*i + i/7) % 3
		}
		for _, by := range [][]int{nil, w[:1], w, word.Join(w[1:], []int{2})} {
			want, _ := machine.Run(b, by)
			if got, e := machine.Run(least, by); !slices.Equal(got, want) || e != api.OK {
				t.Errorf("kind %d: of a word of %d symbols %v, %d, not %v", kind, len(by), got, e, want)
			}
		}
	}
}
