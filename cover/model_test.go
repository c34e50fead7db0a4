package cover_test

import (
	"slices"
	"testing"

	"tutor/api"
	"tutor/cover"
	"tutor/differ"
	"tutor/machine"
	"tutor/moore"
	"tutor/trim"
	"tutor/word"
)

func equalWords(a, b [][]int) bool {
	return slices.EqualFunc(a, b, slices.Equal[[]int])
}

func equalMarks(a, b [][][]int) bool {
	return slices.EqualFunc(a, b, equalWords)
}

// same tells whether two words are the same.
func same(w []int) func(v []int) bool {
	return func(v []int) bool { return slices.Equal(v, w) }
}

// answers is what the four calls tell.
type answers struct {
	states, ways, set [][]int
	marks             [][][]int
	e                 [4]api.Errno
}

func ask(m api.Machine) (a answers) {
	a.states, a.e[0] = cover.States(m)
	a.ways, a.e[1] = cover.Ways(m)
	a.set, a.e[2] = cover.Set(m)
	a.marks, a.e[3] = cover.Marks(m)
	return a
}

func (a answers) equal(b answers) bool {
	return equalWords(a.states, b.states) && equalWords(a.ways, b.ways) && equalWords(a.set, b.set) && equalMarks(a.marks, b.marks) && a.e == b.e
}

// plain reads the chapter as it stands: words are run, each anew, and lists
// are looked through. What other chapters tell of a machine is handed to it.
type plain struct {
	m      api.Machine
	states []int   // that can be come to, in the order of their access words
	access [][]int // these words
	alike  func(s, t int) bool
	first  func(s, t int) []int // the first word that tells them apart
	met    map[string]int       // what was met, how often
}

// tried finds what other chapters tell by trying words: all are tried that can
// be needed.
func tried(m api.Machine, met map[string]int) plain {
	p := plain{m: m, met: met}
	words, _ := word.All(m.K, m.N)
	for _, w := range words {
		s, _ := machine.State(m, w)
		if !slices.Contains(p.states, s) {
			p.states, p.access = append(p.states, s), append(p.access, w)
		}
	}
	firstOf := func(s, t int) int {
		return slices.IndexFunc(words, func(w []int) bool { return p.apart(w, s, t) })
	}
	p.alike = func(s, t int) bool { return firstOf(s, t) < 0 }
	p.first = func(s, t int) []int { return words[firstOf(s, t)] }
	return p
}

// asked finds it by asking the packages of these chapters.
func asked(m api.Machine, met map[string]int) plain {
	p := plain{m: m, met: met}
	p.states, p.access, _ = trim.Reach(m)
	classes, _, _ := moore.Classes(m)
	p.alike = func(s, t int) bool { return classes[s] == classes[t] }
	p.first = func(s, t int) []int {
		w, _, _ := differ.Apart(m, s, t)
		return w
	}
	return p
}

func (p plain) apart(w []int, s, t int) bool {
	_, fromS, _ := machine.From(p.m, s, w)
	_, fromT, _ := machine.From(p.m, t, w)
	return !slices.Equal(fromS, fromT)
}

// lastApart tells whether what is said last tells them apart.
func (p plain) lastApart(w []int, s, t int) bool {
	_, fromS, _ := machine.From(p.m, s, w)
	_, fromT, _ := machine.From(p.m, t, w)
	return len(fromS) > 0 && fromS[len(fromS)-1] != fromT[len(fromT)-1]
}

func (p plain) begun() [][]int {
	if p.m.Kind == api.Dfa {
		return [][]int{{}}
	}
	return nil
}

func ended(l [][]int) [][]int {
	if len(l) == 0 {
		return [][]int{{}}
	}
	return l
}

// lacks tells whether no word of l tells s and t apart, which are not alike.
func (p plain) lacks(l [][]int, s, t int) bool {
	if p.alike(s, t) {
		p.met["alike"]++
		return false
	}
	for _, w := range l {
		if p.apart(w, s, t) {
			p.met["told"]++
			if !slices.ContainsFunc(l, func(w []int) bool { return p.lastApart(w, s, t) }) {
				p.met["told on the way alone"]++
			}
			return false
		}
	}
	p.met["put"]++
	return true
}

func (p plain) ways() [][]int {
	var l [][]int
	put := func(w []int) {
		if !slices.ContainsFunc(l, same(w)) {
			l = append(l, w)
		}
	}
	for _, w := range p.access {
		put(w)
		for x := range p.m.K {
			put(word.Join(w, []int{x}))
		}
	}
	slices.SortFunc(l, word.Compare)
	return l
}

func (p plain) set() [][]int {
	l := p.begun()
	for i, s := range p.states {
		for _, t := range p.states[i+1:] {
			if p.lacks(l, s, t) {
				l = append(l, p.first(s, t))
			}
		}
	}
	return ended(l)
}

func (p plain) marks() [][][]int {
	set := p.set()
	var all [][][]int
	for _, s := range p.states {
		l := p.begun()
		for _, t := range p.states {
			if s != t && p.lacks(l, s, t) {
				at := slices.IndexFunc(set, func(w []int) bool { return p.apart(w, s, t) })
				l = append(l, set[at])
				if !slices.Equal(set[at], p.first(s, t)) {
					p.met["of Set, not of all"]++
				}
			}
		}
		all = append(all, ended(l))
	}
	return all
}

func (p plain) ask() answers {
	return answers{states: p.access, ways: p.ways(), set: p.set(), marks: p.marks()}
}

// holds holds the program against the chapter, and notes where another reading
// of it would tell another Set: so it is seen that these are told apart.
func (p plain) holds(t *testing.T) {
	t.Helper()
	want := p.ask()
	if got := ask(p.m); !got.equal(want) {
		t.Fatalf("%v: %v, not %v", p.m, got, want)
	}
	byNumber := slices.Sorted(slices.Values(p.states))
	if !equalWords(p.setOf(byNumber), want.set) {
		p.met["by numbers"]++
	}
	everywhere := slices.Clone(p.states)
	for s := range p.m.N {
		if !slices.Contains(p.states, s) {
			everywhere = append(everywhere, s)
		}
	}
	if !equalWords(p.setOf(everywhere), want.set) {
		p.met["everywhere"]++
	}
	if !slices.IsSortedFunc(want.set, word.Compare) {
		p.met["not as words are ordered"]++
	}
}

// setOf is what Set would be if these states could be come to, in this order.
func (p plain) setOf(states []int) [][]int {
	p.states, p.met = states, map[string]int{}
	return p.set()
}

// enough fails where something was met too seldom for a test to hold it.
func enough(t *testing.T, met map[string]int, least int, each ...string) {
	t.Helper()
	for _, x := range each {
		if met[x] < least {
			t.Errorf("%s: met %d times, that tells little", x, met[x])
		}
	}
}

// P15.1 to P15.3: all machines of few states and symbols.
func TestSmallAsPlainlyRead(t *testing.T) {
	met := map[string]int{}
	for _, c := range []struct{ kind, k, n int }{{api.Dfa, 1, 4}, {api.Dfa, 2, 3}, {api.Dfa, 3, 2}, {api.Mealy, 1, 4}, {api.Mealy, 2, 3}, {api.Mealy, 3, 1}} {
		for _, m := range all(c.kind, c.k, c.n) {
			tried(m, met).holds(t)
		}
	}
	enough(t, met, 100, "alike", "told", "told on the way alone", "put", "of Set, not of all", "by numbers", "everywhere", "not as words are ordered")
}

// P15.1 to P15.3: greater ones, that are drawn.
func TestDrawnAsPlainlyRead(t *testing.T) {
	met := map[string]int{}
	for _, m := range drawn() {
		asked(m, met).holds(t)
	}
	enough(t, met, 20, "alike", "told", "told on the way alone", "put", "of Set, not of all", "by numbers", "everywhere", "not as words are ordered")
}
