package cover_test

import (
	"slices"
	"testing"

	"tutor/api"
	"tutor/cover"
	"tutor/word"
)

// gathered is a machine, and what Set and Marks tell of it.
type gathered struct {
	name  string
	m     api.Machine
	set   [][]int
	marks [][][]int
}

// cases lists machines of which it is told by hand what is gathered.
func cases() []gathered {
	empty := [][]int{{}}
	two := [][]int{{0, 0}}
	long := [][]int{{}, {0, 0}}
	return []gathered{
		{"the chapter's example", dfa(1, []int{1, 2, 2}, []int{0, 0, 1}), [][]int{{}, {0}}, [][][]int{{{}, {0}}, {{}, {0}}, empty}},
		{"one state", dfa(1, []int{0}, []int{1}), empty, [][][]int{empty}},
		{"one state, many symbols", dfa(64, make([]int, 64), []int{0}), empty, [][][]int{empty}},
		{"one state of a Mealy", mealy(2, 2, []int{0, 0}, []int{0, 1}), empty, [][][]int{empty}},
		{"all say the same", dfa(1, []int{1, 2, 0}, []int{1, 1, 1}), empty, [][][]int{empty, empty, empty}},
		{"all are alike, a Mealy", mealy(2, 2, []int{1, 0, 0, 1}, []int{0, 1, 0, 1}), empty, [][][]int{empty, empty}},
		{"told apart by the empty word", dfa(1, []int{1, 0}, []int{0, 1}), empty, [][][]int{empty, empty}},
		{"a Mealy has no empty word", mealy(1, 2, []int{1, 0}, []int{0, 1}), [][]int{{0}}, [][][]int{{{0}}, {{0}}}},
		{"a Mealy, by its second symbol", mealy(2, 2, []int{1, 0, 0, 1}, []int{0, 0, 0, 1}), [][]int{{1}}, [][][]int{{{1}}, {{1}}}},
		{"others are alike", dfa(1, []int{1, 2, 3, 2}, []int{0, 0, 1, 1}), [][]int{{}, {0}}, [][][]int{{{}, {0}}, {{}, {0}}, empty, empty}},
		{"others are alike, a Mealy", mealy(1, 2, []int{1, 2, 3, 2}, []int{0, 0, 1, 1}), two, [][][]int{two, two, two, two}},
		{"alike to the first state", acceptor(), empty, [][][]int{empty, empty, empty}},
		{"alike but for the first state", transducer(), [][]int{{0}}, [][][]int{{{0}}, {{0}}, {{0}}}},
		{"the longer one first", dfa(1, []int{1, 2, 3, 3}, []int{0, 0, 0, 1}), [][]int{{}, {0, 0}, {0}}, [][][]int{long, {{}, {0, 0}, {0}}, {{}, {0, 0}, {0}}, empty}},
		{"the greater one first", mealy(2, 2, []int{0, 1, 0, 2, 0, 0}, []int{0, 0, 0, 1, 1, 1}), [][]int{{1}, {0}}, [][][]int{{{1}}, {{1}, {0}}, {{1}, {0}}}},
		{"by s ahead of t", dfa(1, []int{1, 2, 3, 2}, []int{0, 1, 1, 0}), long, [][][]int{long, long, long, long}},
		{"by s ahead of t, a Mealy", mealy(1, 2, []int{1, 2, 3, 2}, []int{0, 1, 1, 0}), [][]int{{0}, {0, 0, 0}}, [][][]int{{{0}, {0, 0, 0}}, {{0}, {0, 0, 0}}, {{0}, {0, 0, 0}}, {{0, 0, 0}}}},
		{"by access words, not by numbers", dfa(1, []int{2, 0, 3, 1}, []int{0, 0, 0, 1}), [][]int{{}, {0}, {0, 0}}, [][][]int{{{}, {0}, {0, 0}}, {{}, {0}}, empty, {{}, {0, 0}, {0}}}},
		{"by access words, not by numbers, a Mealy", mealy(1, 2, []int{2, 0, 1}, []int{0, 0, 1}), [][]int{{0}, {0, 0}}, [][][]int{{{0}, {0, 0}}, {{0}}, {{0, 0}}}},
		{"what is told on the way", mealy(1, 2, []int{1, 2, 0}, []int{0, 0, 1}), two, [][][]int{two, two, two}},
		{"what can not be come to", dfa(1, []int{0, 0, 1}, []int{0, 1, 0}), empty, [][][]int{empty}},
		{"what can not be come to, a Mealy", mealy(1, 2, []int{2, 0, 0}, []int{0, 1, 0}), empty, [][][]int{empty, empty}},
		{"what can not be come to, between others", dfa(1, []int{2, 0, 2}, []int{0, 0, 1}), empty, [][][]int{empty, empty}},
	}
}

// P15.2.
func TestSet(t *testing.T) {
	for _, c := range cases() {
		if got, e := cover.Set(c.m); !equalWords(got, c.set) || e != api.OK {
			t.Errorf("%s: %v, %d, not %v", c.name, got, e, c.set)
		}
	}
}

// P15.3.
func TestMarks(t *testing.T) {
	for _, c := range cases() {
		if got, e := cover.Marks(c.m); !equalMarks(got, c.marks) || e != api.OK {
			t.Errorf("%s: %v, %d, not %v", c.name, got, e, c.marks)
		}
	}
}

// P15.2: as many words as there can be, as long as they can be.
func TestSetGreatest(t *testing.T) {
	n := api.MaxStates
	for _, k := range []int{2, api.MaxAlphabet} {
		ofDfa, ofMealy := [][]int{{}}, [][]int(nil)
		for s := range n - 1 {
			if s < n-2 {
				ofDfa = append(ofDfa, make([]int, n-2-s))
			}
			ofMealy = append(ofMealy, append(make([]int, n-2-s), k-1))
		}
		if got, e := cover.Set(chain(api.Dfa, n, k)); !equalWords(got, ofDfa) || e != api.OK {
			t.Errorf("a Dfa of %d symbols: %d words, %d", k, len(got), e)
		}
		if got, e := cover.Set(chain(api.Mealy, n, k)); !equalWords(got, ofMealy) || e != api.OK {
			t.Errorf("a Mealy of %d symbols: %d words, %d", k, len(got), e)
		}
	}
	if got, e := cover.Set(chain(api.Mealy, n, 1)); !equalWords(got, [][]int{make([]int, n-1)}) || e != api.OK {
		t.Errorf("a Mealy of one symbol: %d words, %d", len(got), e)
	}
}

// P15.2, P15.3: of as many states as there can be, of which each is alike with
// all others.
func TestGreatestAlike(t *testing.T) {
	for _, kind := range []int{api.Dfa, api.Mealy} {
		for _, k := range []int{1, api.MaxAlphabet} {
			m := ring(kind, k, slices.Repeat([]int{1}, api.MaxStates))
			if got, e := cover.Set(m); !equalWords(got, [][]int{{}}) || e != api.OK {
				t.Errorf("kind %d, %d symbols: %v, %d", kind, k, got, e)
			}
			want := slices.Repeat([][][]int{{{}}}, m.N)
			if got, e := cover.Marks(m); !equalMarks(got, want) || e != api.OK {
				t.Errorf("kind %d, %d symbols: %d states, %d", kind, k, len(got), e)
			}
		}
	}
}

// shifter's states are ten bits each; a symbol is the last bit that comes in,
// and the first one, that falls out, is what is said.
func shifter(kind int) api.Machine {
	m := api.Machine{Kind: kind, K: 2, O: 2, N: api.MaxStates}
	for s := range m.N {
		m.Next = append(m.Next, 2*s%m.N, (2*s+1)%m.N)
		m.Out = append(m.Out, slices.Repeat([]int{s >> 9}, saidPerState(m))...)
	}
	return m
}

// P15.3: of as many states as there can be. Two states are told apart by the
// word that brings the first bit out in which they are not the same; from a
// Mealy's state a word brings out all bits that are further ahead, too, and the
// first pair of states asks for the longest word.
func TestMarksGreatest(t *testing.T) {
	var bits [][]int
	for n := range 10 {
		bits = append(bits, make([]int, n))
	}
	l, e := cover.Marks(shifter(api.Dfa))
	if len(l) != api.MaxStates || e != api.OK {
		t.Fatalf("of %d states, %d", len(l), e)
	}
	for s, marks := range l {
		slices.SortFunc(marks, word.Compare)
		if !equalWords(marks, bits) {
			t.Fatalf("state %d: %v", s, marks)
		}
	}
	l, e = cover.Marks(shifter(api.Mealy))
	if want := slices.Repeat([][][]int{{make([]int, 10)}}, api.MaxStates); !equalMarks(l, want) || e != api.OK {
		t.Fatalf("a Mealy: of %d states, %d", len(l), e)
	}
}
