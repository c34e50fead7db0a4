package text_test

import (
	"bytes"
	"slices"
	"testing"

	"tutor/api"
	"tutor/text"
)

// roomy lays a list out anew, with spare room that is marked: both the whole
// room and the list that is handed in are answered.
func roomy[T int | byte](l []T) (room, list []T) {
	room = append(slices.Clone(l), 77, 78, 79)
	return room, room[:len(l)]
}

// scribble writes all over a list, its spare room too.
func scribble[T int | byte](l []T, by T) {
	l = l[:cap(l)]
	for at := range l {
		l[at] = by
	}
}

// wholly tells whether a list is written over still, its spare room too.
func wholly[T int | byte](l []T, by T) bool {
	return !slices.ContainsFunc(l[:cap(l)], func(x T) bool { return x != by })
}

// Export neither changes nor keeps what is handed in, its spare room included,
// and no answer shares anything with it or with another one.
func TestExportMemory(t *testing.T) {
	for _, start := range []func() api.Machine{acceptor, transducer} {
		exportMemory(t, start())
		for _, f := range faults() {
			m := start()
			f.turn(&m)
			exportMemory(t, m)
		}
	}
	for _, m := range drawn() {
		exportMemory(t, m)
	}
}

func exportMemory(t *testing.T, m api.Machine) {
	t.Helper()
	b, wantE := text.Export(m)
	want := string(b)
	given := m
	nextRoom, next := roomy(m.Next)
	outRoom, out := roomy(m.Out)
	given.Next, given.Out = next, out
	nextBefore, outBefore := slices.Clone(nextRoom), slices.Clone(outRoom)
	first, _ := text.Export(given)
	second, _ := text.Export(given)
	last, _ := text.Export(given)
	for _, got := range [][]byte{first, second, last} {
		if string(got) != want {
			t.Fatalf("%v: %q, not %q", m, got, want)
		}
	}
	scribble(first, 1)
	scribble(second, 2)
	if !wholly(first, 1) || !wholly(second, 2) || string(last) != want {
		t.Fatalf("%v: two answers share memory", m)
	}
	if !slices.Equal(nextRoom, nextBefore) || !slices.Equal(outRoom, outBefore) {
		t.Fatalf("%v: what was handed in is now %v, %v", m, nextRoom, outRoom)
	}
	if again, e := text.Export(given); string(again) != want || e != wantE {
		t.Fatalf("%v: later %q, %d", m, again, e)
	}
	scribble(nextRoom, -99)
	scribble(outRoom, -99)
	if string(last) != want {
		t.Fatalf("%v: what was handed in is part of %q", m, last)
	}
}

// Import likewise.
func TestImportMemory(t *testing.T) {
	for _, m := range append(drawn(), dfa(1, []int{0}, []int{1}), mealy(1, 1, []int{0}, []int{0})) {
		importMemory(t, plainText(m))
	}
	for _, s := range []string{"", "x", "dfa 1 1\n0 0", "dfa 1 1\n0 0\n\n", "dfa 1 2\n0 1\n1 2\n", "mealy 1 1 2\n1/0\n0/1\n", "dfa 65 1\n", "mealy 1 65 1\n", "dfa 1 1025\n", "dfa 01"} {
		importMemory(t, s)
	}
}

func importMemory(t *testing.T, s string) {
	t.Helper()
	want := importOf(s)
	room, b := roomy([]byte(s))
	before := slices.Clone(room)
	var answers []api.Machine
	for range 3 {
		m, e, at := text.Import(b)
		if !equalImported(imported{m, e, at}, want) {
			t.Fatalf("%q: %v, %d at %d, not %v", s, m, e, at, want)
		}
		answers = append(answers, m)
	}
	lists := [][]int{answers[0].Next, answers[0].Out, answers[1].Next, answers[1].Out}
	for i, l := range lists {
		scribble(l, 1000+i)
	}
	for i, l := range lists {
		if !wholly(l, 1000+i) {
			t.Fatalf("%q: two lists of the answers share memory", s)
		}
	}
	if !bytes.Equal(room, before) {
		t.Fatalf("%q: what was handed in is now %q", s, room)
	}
	if m, e, at := text.Import(b); !equalImported(imported{m, e, at}, want) {
		t.Fatalf("%q: later %v, %d at %d", s, m, e, at)
	}
	scribble(room, 'X')
	if !equalMachines(answers[2], want.m) {
		t.Fatalf("%q: what was handed in is part of %v", s, answers[2])
	}
}

// Number and Put likewise.
func TestNumberMemory(t *testing.T) {
	for _, s := range []string{"", "0", "42", "1234", "12345", "01", "x", "7x"} {
		room, b := roomy([]byte(s))
		before := slices.Clone(room)
		for at := -1; at <= len(s)+1; at++ {
			if got, want := number(b, at), plainNumber(s, at); got != want {
				t.Errorf("%q at %d: %v, not %v", s, at, got, want)
			}
		}
		if !bytes.Equal(room, before) {
			t.Errorf("%q: what was handed in is now %q", s, room)
		}
	}
	for _, n := range []int{0, 7, 9, 10, 42, 99, 100, -1, -42, 123456789} {
		want := string(text.Put(n))
		first, second, last := text.Put(n), text.Put(n), text.Put(n)
		scribble(first, 'X')
		scribble(second, 'Y')
		if !wholly(first, 'X') || string(last) != want || string(text.Put(n)) != want {
			t.Errorf("%d: answers share memory: %q, %q", n, first, last)
		}
	}
}

// What stands in the spare room is no part of the text.
func TestImportSpareRoom(t *testing.T) {
	b := []byte("dfa 1 1\n0 0\n")
	for n := range len(b) {
		if m, e, at := text.Import(b[:n]); !equalImported(imported{m, e, at}, wrong(api.ErrForm, n)) {
			t.Errorf("%d bytes: %v, %d at %d", n, m, e, at)
		}
	}
	// Next and Out may be one list.
	l := []int{1, 0}
	if got, e := text.Export(dfa(1, l, l)); string(got) != "dfa 1 2\n1 1\n0 0\n" || e != api.OK || !slices.Equal(l, []int{1, 0}) {
		t.Errorf("one list twice: %q, %d, %v", got, e, l)
	}
}
