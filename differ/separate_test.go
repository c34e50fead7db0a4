package differ_test

import (
	"reflect"
	"slices"
	"testing"

	"tutor/api"
	"tutor/differ"
	"tutor/machine"
	"tutor/moore"
	"tutor/trim"
)

func separate(a, b api.Machine) (f found) {
	f.w, f.apart, f.e = differ.Separate(a, b)
	return f
}

// separates holds Separate, in both orders, and Equal.
func separates(t *testing.T, name string, a, b api.Machine, want found) {
	t.Helper()
	if got := separate(a, b); !equalFound(got, want) {
		t.Errorf("%s: %v, not %v", name, got, want)
	}
	if got := separate(b, a); !equalFound(got, want) {
		t.Errorf("%s, turned round: %v, not %v", name, got, want)
	}
	same := want.e == api.OK && !want.apart
	if got, e := differ.Equal(a, b); got != same || e != want.e {
		t.Errorf("%s: Equal tells %v, %d", name, got, e)
	}
	if got, e := differ.Equal(b, a); got != same || e != want.e {
		t.Errorf("%s, turned round: Equal tells %v, %d", name, got, e)
	}
}

// P7.1, P7.2.
func TestSeparate(t *testing.T) {
	two := dfa(1, []int{1, 0}, []int{0, 1})
	swap := mealy(1, 2, []int{1, 0}, []int{0, 1})
	for _, c := range []struct {
		name string
		a, b api.Machine
		want []int
	}{
		{"the chapter's example", two, dfa(1, []int{1, 2, 0}, []int{0, 1, 1}), []int{0, 0}},
		{"the empty word", two, dfa(1, []int{0, 1}, []int{1, 0}), nil},
		{"the empty word, of one state each", dfa(1, []int{0}, []int{0}), dfa(1, []int{0}, []int{1}), nil},
		{"the empty word is ahead of others", dfa(2, []int{0, 0}, []int{0}), dfa(2, []int{0, 0}, []int{1}), nil},
		{"a Dfa by one symbol, though not by two", two, dfa(1, []int{1, 0}, []int{0, 0}), []int{0}},
		{"a Mealy says nothing of the empty word", mealy(1, 2, []int{0}, []int{0}), mealy(1, 2, []int{0}, []int{1}), []int{0}},
		{"a Mealy, two symbols", swap, mealy(1, 2, []int{0}, []int{0}), []int{0, 0}},
		{"a Mealy, as often as it says", mealy(2, 2, []int{1, 0, 0, 1}, []int{0, 0, 0, 1}), mealy(2, 2, []int{1, 0, 0, 0}, []int{0, 0, 0, 1}), []int{0, 1, 1}},
		{"the least symbol of several", mealy(4, 3, make([]int, 4), []int{0, 0, 0, 0}), mealy(4, 3, make([]int, 4), []int{0, 2, 0, 1}), []int{1}},
		{"the last symbol alone", mealy(4, 3, make([]int, 4), []int{0, 0, 0, 0}), mealy(4, 3, make([]int, 4), []int{0, 0, 0, 2}), []int{3}},
		{"a Dfa, the least symbol of several", dfa(3, make([]int, 3), []int{0}), dfa(3, []int{0, 1, 1, 1, 1, 1}, []int{0, 1}), []int{1}},
		{"the shorter one is ahead", dfa(2, []int{0, 0}, []int{0}), dfa(2, []int{1, 2, 2, 1, 2, 2}, []int{0, 0, 1}), []int{1}},
		{"a Mealy, the shorter one is ahead", mealy(2, 2, []int{0, 0}, []int{0, 0}), mealy(2, 2, []int{1, 0, 1, 1}, []int{0, 1, 1, 1}), []int{1}},
		{"of two as long the lesser first symbol", dfa(2, []int{0, 0}, []int{0}), dfa(2, []int{1, 2, 0, 3, 3, 0, 3, 3}, []int{0, 0, 0, 1}), []int{0, 1}},
		{"of two as long the lesser last symbol", dfa(2, []int{0, 0}, []int{0}), dfa(2, []int{0, 1, 2, 2, 2, 2}, []int{0, 0, 1}), []int{1, 0}},
	} {
		separates(t, c.name, c.a, c.b, found{c.want, true, api.OK})
	}
}

// P7.2.
func TestSeparateNone(t *testing.T) {
	turned, _ := trim.Turn(transducer(), []int{0, 3, 1, 2})
	least, _ := moore.Minimise(acceptor())
	for _, c := range []struct {
		name string
		a, b api.Machine
	}{
		{"the same Dfa", acceptor(), acceptor()},
		{"the same Mealy", transducer(), transducer()},
		{"one state", dfa(1, []int{0}, []int{1}), dfa(1, []int{0}, []int{1})},
		{"one state, a Mealy", mealy(3, 1, []int{0, 0, 0}, []int{0, 0, 0}), mealy(3, 1, []int{0, 0, 0}, []int{0, 0, 0})},
		{"other numbers", transducer(), turned},
		{"fewer states", acceptor(), least},
		{"rings of 2 and 4", ring(api.Dfa, 1, []int{0, 1}), ring(api.Dfa, 1, []int{0, 1, 0, 1})},
		{"rings of 4 and 6", ring(api.Mealy, 3, []int{0, 1, 0, 1}), ring(api.Mealy, 3, []int{0, 1, 0, 1, 0, 1})},
		{"rings that all say 1", ring(api.Dfa, 2, []int{1, 1, 1}), ring(api.Dfa, 2, []int{1, 1, 1, 1, 1})},
		{"what differs is never come to", dfa(1, []int{0, 0}, []int{0, 1}), dfa(1, []int{0, 1, 1}, []int{0, 0, 0})},
		{"a way that differs is never gone", mealy(1, 3, []int{0, 1}, []int{1, 0}), mealy(1, 3, []int{0, 0}, []int{1, 2})},
	} {
		separates(t, c.name, c.a, c.b, found{})
	}
}

// P7.1, P7.2: all words are tried that can be needed (P7.5).
func TestSeparateAsPlainlyRead(t *testing.T) {
	for _, size := range []struct{ kind, k, n int }{{api.Dfa, 1, 3}, {api.Dfa, 2, 2}, {api.Dfa, 3, 1}, {api.Mealy, 1, 3}, {api.Mealy, 2, 2}, {api.Mealy, 3, 1}} {
		machines := all(size.kind, size.k, size.n)
		words := wordsUpTo(t, size.k, 2*size.n)
		var says [][][]int
		for _, m := range machines {
			says = append(says, said(m, 0, words))
		}
		for i, a := range machines {
			for j, b := range machines {
				want := firstOf(words, says[i], says[j])
				if got := separate(a, b); !equalFound(got, want) {
					t.Fatalf("%v and %v: %v, not %v", a, b, got, want)
				}
				if same, e := differ.Equal(a, b); same == want.apart || e != api.OK {
					t.Fatalf("%v and %v: Equal tells %v, %d", a, b, same, e)
				}
			}
		}
	}
}

// couples lists machines that may be separated: any two that fit, and some of
// which one is the other one with an entry changed.
func couples() [][2]api.Machine {
	var l [][2]api.Machine
	machines := drawn()
	d := numbers(11)
	for i, a := range machines {
		for _, b := range machines[max(0, i-9):] {
			if a.Kind == b.Kind && a.K == b.K && a.O == b.O && a.N*b.N < 300 {
				l = append(l, [2]api.Machine{a, b})
			}
		}
		for range 6 {
			l = append(l, [2]api.Machine{a, d.changed(a)})
		}
		least, _ := moore.Minimise(a)
		l = append(l, [2]api.Machine{a, least})
	}
	return l
}

// P7.2, P7.5: what is found is held against another way to find it, against
// what the machines say, and against their minimised ones.
func TestSeparateDrawn(t *testing.T) {
	longest := 0
	for _, c := range couples() {
		a, b := c[0], c[1]
		got := separate(a, b)
		if want := foundIn(firsts(joined(a, b)), 0, a.N); !equalFound(got, want) {
			t.Fatalf("%v and %v: %v, not %v", a, b, got, want)
		}
		saidOfA, _ := machine.Run(a, got.w)
		saidOfB, _ := machine.Run(b, got.w)
		if slices.Equal(saidOfA, saidOfB) == got.apart {
			t.Fatalf("%v and %v: %v, but %v and %v are said", a, b, got, saidOfA, saidOfB)
		}
		leastOfA, _ := moore.Minimise(a)
		leastOfB, _ := moore.Minimise(b)
		if reflect.DeepEqual(leastOfA, leastOfB) == got.apart {
			t.Fatalf("%v and %v: %v, but the least are %v and %v", a, b, got, leastOfA, leastOfB)
		}
		if len(got.w) >= a.N+b.N {
			t.Fatalf("%v and %v: a word of %d symbols", a, b, len(got.w))
		}
		longest = max(longest, len(got.w))
	}
	if longest < 8 {
		t.Errorf("no word has more than %d symbols: that tells little", longest)
	}
}

// agreeing tells what two rings say, of p and q states, that agree as long as
// two rings can that don't say the same: p and q have no divisor but 1. Places
// that must say the same, p or q from one another, are two heaps then.
func agreeing(p, q int) (a, b []int) {
	row := make([]int, p+q-2)
	for i := range row {
		row[i] = -1
	}
	heap := []int{0}
	row[0] = 1
	for at := 0; at < len(heap); at++ {
		for _, i := range []int{heap[at] - p, heap[at] + p, heap[at] - q, heap[at] + q} {
			if i >= 0 && i < len(row) && row[i] < 0 {
				row[i] = 1
				heap = append(heap, i)
			}
		}
	}
	for i := range row {
		row[i] = max(row[i], 0)
	}
	return row[:p], row[:q]
}

// P7.5: the longest words there can be, up to the most states there may be.
func TestSeparateLongest(t *testing.T) {
	for _, c := range [][2]int{{2, 3}, {3, 4}, {5, 8}, {7, 30}, {api.MaxStates - 1, api.MaxStates}, {601, api.MaxStates}} {
		a, b := agreeing(c[0], c[1])
		both := c[0] + c[1]
		separates(t, "Dfas", ring(api.Dfa, 1, a), ring(api.Dfa, 1, b), found{make([]int, both-2), true, api.OK})
		separates(t, "Mealys", ring(api.Mealy, 1, a), ring(api.Mealy, 1, b), found{make([]int, both-1), true, api.OK})
	}
}

// The limits themselves are allowed. Of two rings with no common divisor every
// state comes together with every other one, and they say the same.
func TestSeparateGreatest(t *testing.T) {
	for _, kind := range []int{api.Dfa, api.Mealy} {
		a := ring(kind, api.MaxAlphabet, make([]int, api.MaxStates))
		b := ring(kind, api.MaxAlphabet, make([]int, api.MaxStates-1))
		separates(t, "rings", a, b, found{})
		long := chain(kind, api.MaxStates, api.MaxAlphabet)
		separates(t, "the same chain", long, long, found{})
		want := make([]int, api.MaxStates-1)
		if kind == api.Mealy { // it says 1 by the last symbol alone
			want = append(want, api.MaxAlphabet-1)
		}
		separates(t, "a chain and a ring", long, b, found{want, true, api.OK})
	}
	a := mealy(api.MaxAlphabet, api.MaxOutputs, make([]int, 2*api.MaxAlphabet), slices.Repeat([]int{63}, 2*api.MaxAlphabet))
	b := a
	b.Out = slices.Clone(a.Out)
	b.Out[63] = 62
	separates(t, "the greatest symbol and output", a, b, found{[]int{63}, true, api.OK})
}

// P7.2: the machines' own errors come first, a's ahead of b's, and nothing is
// told beside an error.
func TestSeparateWrongMachines(t *testing.T) {
	starts := []func() api.Machine{acceptor, transducer}
	for _, startA := range starts {
		for _, f := range faults() {
			a := startA()
			f.turn(&a)
			for _, startB := range starts {
				separates(t, f.name, a, startB(), found{e: f.e})
				for _, g := range faults() {
					b := startB()
					g.turn(&b)
					if got := separate(a, b); !equalFound(got, found{e: f.e}) {
						t.Errorf("%s and %s: %v", f.name, g.name, got)
					}
					if same, e := differ.Equal(a, b); same || e != f.e {
						t.Errorf("%s and %s: Equal tells %v, %d", f.name, g.name, same, e)
					}
				}
			}
		}
	}
}

// P7.2.
func TestSeparateMisfits(t *testing.T) {
	for _, c := range []struct {
		name string
		a, b api.Machine
		e    api.Errno
	}{
		{"Kinds", dfa(1, []int{0}, []int{0}), mealy(1, 2, []int{0}, []int{0}), api.ErrKind},
		{"Kinds and Ks", dfa(2, []int{0, 0}, []int{0}), mealy(1, 2, []int{0}, []int{0}), api.ErrKind},
		{"Kinds and Os", dfa(1, []int{0}, []int{0}), mealy(1, 3, []int{0}, []int{0}), api.ErrKind},
		{"Kinds, Ks and Os", dfa(1, []int{0}, []int{0}), mealy(2, 3, []int{0, 0}, []int{0, 0}), api.ErrKind},
		{"Ks", dfa(1, []int{0}, []int{0}), dfa(2, []int{0, 0}, []int{0}), api.ErrArg},
		{"Ks, and the empty word tells apart", dfa(1, []int{0}, []int{0}), dfa(2, []int{0, 0}, []int{1}), api.ErrArg},
		{"Ks, of Mealys", mealy(1, 2, []int{0}, []int{0}), mealy(2, 2, []int{0, 0}, []int{0, 0}), api.ErrArg},
		{"Ks, lists of one size", mealy(1, 2, []int{0, 0}, []int{0, 0}), mealy(2, 2, []int{0, 0}, []int{0, 0}), api.ErrArg},
		{"Ks and Os", mealy(1, 2, []int{0}, []int{0}), mealy(2, 3, []int{0, 0}, []int{0, 0}), api.ErrArg},
		{"Os", mealy(1, 2, []int{0}, []int{0}), mealy(1, 3, []int{0}, []int{0}), api.ErrOut},
		{"Os, and a word tells apart", mealy(1, 2, []int{0}, []int{0}), mealy(1, 3, []int{0}, []int{2}), api.ErrOut},
		{"Os 1 and 64", mealy(1, 1, []int{0}, []int{0}), mealy(1, 64, []int{0}, []int{0}), api.ErrOut},
	} {
		separates(t, c.name, c.a, c.b, found{e: c.e})
	}
}

// The signatures are given: what is built on them must not break.
func TestSignatures(t *testing.T) {
	for _, c := range []struct{ got, want any }{
		{differ.Separate, (func(a, b api.Machine) ([]int, bool, api.Errno))(nil)},
		{differ.Equal, (func(a, b api.Machine) (bool, api.Errno))(nil)},
		{differ.Apart, (func(m api.Machine, s, t int) ([]int, bool, api.Errno))(nil)},
		{differ.Pairs, (func(m api.Machine) ([][]int, api.Errno))(nil)},
	} {
		if g, w := reflect.TypeOf(c.got), reflect.TypeOf(c.want); g != w {
			t.Errorf("%v, not %v", g, w)
		}
	}
}
