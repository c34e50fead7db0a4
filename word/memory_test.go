package word_test

import (
	"slices"
	"testing"

	"tutor/word"
)

// roomy lays lists out anew, each with spare room that is marked: both the
// whole rooms and the lists that are handed in are answered.
func roomy(l [][]int) (rooms, lists [][]int) {
	for _, w := range l {
		room := append(slices.Clone(w), 77, 78, 79)
		rooms = append(rooms, room)
		lists = append(lists, room[:len(w)])
	}
	return rooms, lists
}

func deep(l [][]int) [][]int {
	var c [][]int
	for _, w := range l {
		c = append(c, slices.Clone(w))
	}
	return c
}

// scribble writes all over a list, its spare room too.
func scribble(w []int) {
	for i := range w[:cap(w)] {
		w[:cap(w)][i] = -99
	}
}

// One at a time the lists of two answers are written all over: by that neither
// what was handed in nor any other list may change, nor what a later call
// answers. Then what was handed in is: by that no answer may change.
func TestMemory(t *testing.T) {
	one := func(w []int) [][]int { return [][]int{w} }
	for _, c := range []struct {
		name string
		args [][]int
		call func(l [][]int) [][]int
	}{
		{"Join of none", nil, func(l [][]int) [][]int { return one(word.Join()) }},
		{"Join of one", [][]int{{1, 2}}, func(l [][]int) [][]int { return one(word.Join(l...)) }},
		{"Join of one and nothing", [][]int{{1, 2}, {}}, func(l [][]int) [][]int { return one(word.Join(l...)) }},
		{"Join of nothing and one", [][]int{{}, {1, 2}}, func(l [][]int) [][]int { return one(word.Join(l...)) }},
		{"Join of three", [][]int{{1}, {2, 3}, {4}}, func(l [][]int) [][]int { return one(word.Join(l...)) }},
		{"Join of one, twice", [][]int{{1, 2}}, func(l [][]int) [][]int { return one(word.Join(l[0], l[0])) }},
		{"Prefixes", [][]int{{3, 1, 2}}, func(l [][]int) [][]int { return word.Prefixes(l[0]) }},
		{"Prefixes of nothing", [][]int{{}}, func(l [][]int) [][]int { return word.Prefixes(l[0]) }},
		{"Suffixes", [][]int{{3, 1, 2}}, func(l [][]int) [][]int { return word.Suffixes(l[0]) }},
		{"Suffixes of nothing", [][]int{{}}, func(l [][]int) [][]int { return word.Suffixes(l[0]) }},
		{"Next", [][]int{{0, 1, 1}}, func(l [][]int) [][]int { w, _ := word.Next(l[0], 2); return one(w) }},
		{"Next, longer", [][]int{{1, 1}}, func(l [][]int) [][]int { w, _ := word.Next(l[0], 2); return one(w) }},
		{"Next, no word", [][]int{{1, 2}}, func(l [][]int) [][]int { w, _ := word.Next(l[0], 2); return one(w) }},
		{"Check", [][]int{{1, 2}}, func(l [][]int) [][]int { at, _ := word.Check(l[0], 2); return one([]int{at}) }},
		{"Compare", [][]int{{1, 2}, {1, 3}}, func(l [][]int) [][]int { return one([]int{word.Compare(l[0], l[1])}) }},
		{"Rank", [][]int{{1, 0}}, func(l [][]int) [][]int { n, _ := word.Rank(l[0], 2); return one([]int{n}) }},
		{"At", nil, func(l [][]int) [][]int { w, _ := word.At(3, 100); return one(w) }},
		{"At 0", nil, func(l [][]int) [][]int { w, _ := word.At(3, 0); return one(w) }},
		{"All", nil, func(l [][]int) [][]int { a, _ := word.All(2, 3); return a }},
		{"All, one symbol", nil, func(l [][]int) [][]int { a, _ := word.All(1, 5); return a }},
	} {
		t.Run(c.name, func(t *testing.T) {
			rooms, lists := roomy(c.args)
			before := deep(rooms)
			first, second, third := c.call(lists), c.call(lists), c.call(lists)
			want := deep(first)
			answers := slices.Concat(first, second, third)
			wants := slices.Concat(want, deep(want), deep(want))
			unchanged := func(from int, what string) {
				t.Helper()
				if !alike(rooms, before) {
					t.Fatalf("%s: what was handed in is now %v", what, rooms)
				}
				if !alike(answers[from:], wants[from:]) {
					t.Fatalf("%s: answers are %v, not %v", what, answers[from:], wants[from:])
				}
			}
			unchanged(0, "called")
			for i := range 2 * len(first) {
				scribble(answers[i])
				unchanged(i+1, "an answer written over")
			}
			for i := range first[:cap(first)] {
				first[:cap(first)][i] = nil
			}
			if !alike(third, want) {
				t.Fatalf("a list of lists written over: %v, not %v", third, want)
			}
			if again := c.call(lists); !alike(again, want) {
				t.Fatalf("later: %v, not %v", again, want)
			}
			for i := range rooms {
				scribble(rooms[i])
			}
			if !alike(third, want) {
				t.Fatalf("what was handed in written over: %v, not %v", third, want)
			}
		})
	}
}
