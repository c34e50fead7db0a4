package differ_test

import (
	"slices"
	"testing"

	"tutor/api"
	"tutor/differ"
)

// roomy lays a list out anew, with spare room that is marked: both the whole
// room and the list that is handed in are answered.
func roomy(l []int) (room, list []int) {
	room = append(slices.Clone(l), 77, 78, 79)
	return room, room[:len(l)]
}

// roomyMachine lays a machine's lists out so.
func roomyMachine(m api.Machine) (given api.Machine, rooms [][]int) {
	nextRoom, next := roomy(m.Next)
	outRoom, out := roomy(m.Out)
	m.Next, m.Out = next, out
	return m, [][]int{nextRoom, outRoom}
}

func deep(l [][]int) [][]int {
	var c [][]int
	for _, w := range l {
		c = append(c, slices.Clone(w))
	}
	return c
}

// scribble writes all over a list, its spare room too.
func scribble(l []int, by int) {
	l = l[:cap(l)]
	for at := range l {
		l[at] = by
	}
}

// answers is what all calls tell of two machines and of two states of the
// first one.
type answers struct {
	separated, apart found
	same             bool
	sameE, pairsE    api.Errno
	pairs            [][]int
}

func askAll(a, b api.Machine, s, t int) (r answers) {
	r.separated, r.apart = separate(a, b), apart(a, s, t)
	r.same, r.sameE = differ.Equal(a, b)
	r.pairs, r.pairsE = differ.Pairs(a)
	return r
}

func equalAnswers(a, b answers) bool {
	return equalFound(a.separated, b.separated) && equalFound(a.apart, b.apart) &&
		a.same == b.same && a.sameE == b.sameE && a.pairsE == b.pairsE && equalLists(a.pairs, b.pairs)
}

// lists tells all lists of numbers that were answered.
func (r answers) lists() [][]int {
	return append(slices.Clone(r.pairs), r.separated.w, r.apart.w)
}

// What is handed in is neither changed nor kept, its spare room included, and
// no list of an answer shares anything with it, with another list of it, or
// with another answer.
func TestMemory(t *testing.T) {
	for _, start := range []func() api.Machine{acceptor, transducer} {
		memory(t, start(), start(), 0, 1)
		memory(t, start(), start(), 2, 2)
		memory(t, start(), start(), 0, 4)
		for _, f := range faults() {
			m := start()
			f.turn(&m)
			memory(t, m, start(), 0, 1)
			memory(t, start(), m, 0, 1)
		}
	}
	memory(t, acceptor(), transducer(), 0, 1)
	memory(t, chain(api.Dfa, 9, 1), chain(api.Dfa, 8, 1), 0, 1)
	memory(t, chain(api.Mealy, 9, 2), chain(api.Mealy, 17, 2), 7, 8)
	memory(t, dfa(1, []int{0}, []int{1}), dfa(1, []int{0}, []int{0}), 0, 0)
	d := numbers(3)
	for _, m := range drawn() {
		memory(t, m, d.changed(m), 0, m.N-1)
	}
}

func memory(t *testing.T, a, b api.Machine, s, u int) {
	t.Helper()
	want := askAll(a, b, s, u)
	givenA, rooms := roomyMachine(a)
	givenB, more := roomyMachine(b)
	rooms = append(rooms, more...)
	before := deep(rooms)
	first, second, last := askAll(givenA, givenB, s, u), askAll(givenA, givenB, s, u), askAll(givenA, givenB, s, u)
	for _, got := range []answers{first, second, last} {
		if !equalAnswers(got, want) {
			t.Fatalf("%v and %v: %v, not %v", a, b, got, want)
		}
	}
	all := slices.Concat(first.lists(), second.lists())
	for i, l := range all {
		scribble(l, 1000+i)
	}
	for i, l := range all {
		if slices.ContainsFunc(l[:cap(l)], func(x int) bool { return x != 1000+i }) {
			t.Fatalf("%v and %v: two lists of the answers share memory", a, b)
		}
	}
	clear(first.pairs[:cap(first.pairs)])
	clear(second.pairs[:cap(second.pairs)])
	if !equalLists(rooms, before) {
		t.Fatalf("%v and %v: what was handed in is now %v", a, b, rooms)
	}
	if again := askAll(givenA, givenB, s, u); !equalAnswers(again, want) {
		t.Fatalf("%v and %v: later %v, not %v", a, b, again, want)
	}
	for _, r := range rooms {
		scribble(r, -99)
	}
	if !equalAnswers(last, want) {
		t.Fatalf("%v and %v: what was handed in written over: %v, not %v", a, b, last, want)
	}
}

// One machine may be handed in twice.
func TestTheSameTwice(t *testing.T) {
	for _, start := range []func() api.Machine{acceptor, transducer} {
		m, rooms := roomyMachine(start())
		before := deep(rooms)
		separates(t, "twice", m, m, found{})
		if !equalLists(rooms, before) {
			t.Errorf("what was handed in is now %v", rooms)
		}
	}
	// Next and Out may be one list.
	l := []int{1, 0}
	m := dfa(1, l, l)
	if got := apart(m, 0, 1); !equalFound(got, found{nil, true, api.OK}) || !slices.Equal(l, []int{1, 0}) {
		t.Errorf("one list twice: %v, %v", got, l)
	}
	separates(t, "one list twice", m, dfa(1, []int{1, 0}, []int{1, 0}), found{})
	if got, e := differ.Pairs(m); !equalLists(got, [][]int{{}}) || e != api.OK || !slices.Equal(l, []int{1, 0}) {
		t.Errorf("one list twice: %v, %d, %v", got, e, l)
	}
}
