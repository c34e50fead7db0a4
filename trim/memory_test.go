package trim_test

import (
	"slices"
	"testing"

	"tutor/api"
	"tutor/trim"
)

// roomy lays a list out anew, with spare room that is marked: both the whole
// room and the list that is handed in are answered.
func roomy(l []int) (room, list []int) {
	room = append(slices.Clone(l), 77, 78, 79)
	return room, room[:len(l)]
}

// answers is what all three calls tell, each twice.
type answers struct {
	reach []reached
	canon []api.Machine
	turn  []api.Machine
	e     []api.Errno
}

func askAll(m api.Machine, p []int) (a answers) {
	for range 2 {
		a.reach = append(a.reach, reach(m))
		c, canonE := trim.Canon(m)
		u, turnE := trim.Turn(m, p)
		a.canon, a.turn, a.e = append(a.canon, c), append(a.turn, u), append(a.e, canonE, turnE)
	}
	return a
}

// lists tells all lists of the answers, by their whole room.
func (a answers) lists() [][]int {
	var l [][]int
	for _, r := range a.reach {
		l = append(l, r.states)
		l = append(l, r.words...)
	}
	for _, m := range slices.Concat(a.canon, a.turn) {
		l = append(l, m.Next, m.Out)
	}
	for i := range l {
		l[i] = l[i][:cap(l[i])]
	}
	return l
}

func equalAnswers(a, b answers) bool {
	return slices.EqualFunc(a.reach, b.reach, equalReached) && slices.EqualFunc(a.canon, b.canon, equalMachine) &&
		slices.EqualFunc(a.turn, b.turn, equalMachine) && slices.Equal(a.e, b.e)
}

// What is handed in is neither changed nor kept, its spare room included, and
// no list of an answer shares anything with it, with another list of it, or
// with another answer.
func TestMemory(t *testing.T) {
	for _, start := range []func() api.Machine{acceptor, transducer} {
		for _, p := range [][]int{nil, {0, 1, 2, 3}, {0, 3, 1, 2}, {0, 1, 2}, {0, 1, 2, 2}, {1, 0, 2, 3}} {
			memory(t, start(), p)
		}
		for _, f := range faults() {
			m := start()
			f.turn(&m)
			memory(t, m, []int{0, 2, 1, 3})
		}
	}
	memory(t, chain(9), mixed(9))
	memory(t, dfa(1, []int{0}, []int{1}), []int{0})
	for _, m := range drawn() {
		memory(t, m, mixed(m.N))
	}
}

func memory(t *testing.T, m api.Machine, p []int) {
	t.Helper()
	nextRoom, next := roomy(m.Next)
	outRoom, out := roomy(m.Out)
	turnRoom, by := roomy(p)
	rooms := [][]int{nextRoom, outRoom, turnRoom}
	var before [][]int
	for _, r := range rooms {
		before = append(before, slices.Clone(r))
	}
	given := m
	given.Next, given.Out = next, out
	want := askAll(m, p)
	got := askAll(given, by)
	if !equalAnswers(got, want) {
		t.Fatalf("%v, %v: %v, not %v", m, p, got, want)
	}
	all := got.lists()
	for i, l := range all {
		for at := range l {
			l[at] = 1000 + i
		}
	}
	for i, l := range all {
		if slices.ContainsFunc(l, func(x int) bool { return x != 1000+i }) {
			t.Fatalf("%v, %v: two lists of the answers share memory", m, p)
		}
	}
	if !slices.EqualFunc(rooms, before, slices.Equal[[]int]) {
		t.Fatalf("%v, %v: what was handed in is now %v", m, p, rooms)
	}
	last := askAll(given, by)
	for _, r := range rooms {
		for at := range r {
			r[at] = -99
		}
	}
	if !equalAnswers(last, want) {
		t.Fatalf("%v, %v: later %v, not %v", m, p, last, want)
	}
}
