package cover

import (
	"slices"

	"tutor/api"
	"tutor/differ"
	"tutor/word"
)

// list is words that were gathered: their places in a view, as they came.
type list []int

func (l *list) put(at int) {
	*l = append(*l, at)
}

// view is a machine all of whose states can be come to, numbered in the order
// of their access words, and words by which they are told apart.
type view struct {
	m     api.Machine
	words [][]int // in order: the empty one, and the first ones that tell two states apart
	said  [][]int // of each state, of each word: the same numbers, if the same is said
	set   list
}

// sight is what is said of a word from a state: what is said of its first
// symbol, and of the word that is behind this symbol.
type sight struct {
	now, behind int
}

// how tells the first word, of those that it looks at, that tells s and t
// apart.
type how func(v *view, s, t int) (at int, apart bool)

// look finds the words, and gathers those of Set.
func look(c api.Machine) *view {
	v := &view{m: c, said: make([][]int, c.N)}
	v.addEmpty()
	firsts, _ := differ.Pairs(c)
	slices.SortFunc(firsts, word.Compare)
	for _, w := range firsts {
		if len(w) > 0 {
			v.add(w)
		}
	}
	v.set = v.begun()
	for s := range c.N {
		v.gather(&v.set, s, s+1, (*view).byAny)
	}
	return v
}

// addEmpty adds the empty word, of which a Mealy says nothing.
func (v *view) addEmpty() {
	v.words = [][]int{nil}
	for s := range v.said {
		said := 0
		if v.m.Kind == api.Dfa {
			said = v.m.Out[s]
		}
		v.said[s] = []int{said}
	}
}

// add adds a word. What it has behind its first symbol was added before: it is
// the first word that tells apart where this symbol leads, or it is empty.
func (v *view) add(w []int) {
	behind, _ := slices.BinarySearchFunc(v.words, w[1:], word.Compare)
	number := map[sight]int{}
	for s := range v.said {
		g := v.sightOf(s, w[0], behind)
		n, there := number[g]
		if !there {
			n = len(number)
			number[g] = n
		}
		v.said[s] = append(v.said[s], n)
	}
	v.words = append(v.words, w)
}

func (v *view) sightOf(s, x, behind int) sight {
	way := s*v.m.K + x
	g := sight{behind: v.said[v.m.Next[way]][behind]}
	if v.m.Kind == api.Mealy {
		g.now = v.m.Out[way]
	}
	return g
}

func (v *view) parts(at, s, t int) bool {
	return v.said[s][at] != v.said[t][at]
}

// byAny looks at all words: as they stand in order, what it tells is the first
// word of all that tells s and t apart; if there is none, they are alike.
func (v *view) byAny(s, t int) (at int, apart bool) {
	for at = range v.words {
		if v.parts(at, s, t) {
			return at, true
		}
	}
	return 0, false
}

// bySet looks at the words of Set alone.
func (v *view) bySet(s, t int) (at int, apart bool) {
	for _, at = range v.set {
		if v.parts(at, s, t) {
			return at, true
		}
	}
	return 0, false
}

// begun is what is gathered at first.
func (v *view) begun() list {
	var l list
	if v.m.Kind == api.Dfa {
		l.put(0)
	}
	return l
}

// gather holds s against the states from a first one on, and puts the word by
// which one is told from it, if none that was put before tells it.
func (v *view) gather(l *list, s, first int, by how) {
states:
	for t := first; t < v.m.N; t++ {
		for _, at := range *l {
			if v.parts(at, s, t) {
				continue states
			}
		}
		if at, apart := by(v, s, t); apart {
			l.put(at)
		}
	}
}

func (v *view) marks(s int) list {
	l := v.begun()
	v.gather(&l, s, 0, (*view).bySet)
	return l
}

// spelled tells the words themselves; the empty one, if none was gathered.
func (v *view) spelled(l list) [][]int {
	if len(l) == 0 {
		l.put(0)
	}
	var words [][]int
	for _, at := range l {
		words = append(words, word.Join(v.words[at]))
	}
	return words
}
