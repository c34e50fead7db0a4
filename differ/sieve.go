package differ

import (
	"cmp"
	"slices"

	"tutor/api"
	"tutor/word"
)

// mark is a word that is the first one to tell some states apart.
type mark struct {
	word  []int
	said  []int // of each state: what is said last of the word from it
	first pair  // the first one of the pairs of which it is the first word
}

// sieve holds states together until a word tells them apart. It is given words
// in their order, so that from states which it holds together the same is said
// of all that a word begins with: what is said last tells them apart, or
// nothing does.
type sieve struct {
	least []int // of a state: the least one that it is held together with
	count int   // how many such least ones there are
	marks []mark
}

// group is what states have in common that stay together.
type group struct {
	least, said int
}

// sift tells all words that are the first ones to tell some states apart, in
// their order. Each of them parts something, so they are fewer than states.
// What such a word has behind its first symbol is one of them, too: the first
// word of the two states that the symbol leads to. So each level is made of
// the one before.
func sift(m api.Machine) []mark {
	v := sieve{least: make([]int, m.N), count: 1}
	v.addShortest(m)
	begin := 0
levels:
	for begin < len(v.marks) {
		level := v.marks[begin:]
		begin = len(v.marks)
		for x := range m.K {
			for _, k := range level {
				if v.count == m.N {
					// Each state is alone: no word is left to be found.
					break levels
				}
				v.add(saidBehind(m, x, k.said), []int{x}, k.word)
			}
		}
	}
	return v.marks
}

// addShortest gives the shortest words of which something is said: of a Dfa
// the empty one, of a Mealy those of one symbol.
func (v *sieve) addShortest(m api.Machine) {
	if m.Kind == api.Dfa {
		v.add(m.Out)
		return
	}
	for x := range m.K {
		said := make([]int, m.N)
		for s := range said {
			said[s] = saidBy(m, s, x)
		}
		v.add(said, []int{x})
	}
}

// saidBehind tells what is said last if x comes ahead of a word.
func saidBehind(m api.Machine, x int, said []int) []int {
	behind := make([]int, m.N)
	for s := range behind {
		behind[s] = said[m.Next[s*m.K+x]]
	}
	return behind
}

// add parts what the word tells apart. Its pieces are joined only if it does:
// most words do not.
func (v *sieve) add(said []int, pieces ...[]int) {
	first, splits := v.firstSplit(said)
	if !splits {
		return
	}
	v.marks = append(v.marks, mark{word: word.Join(pieces...), said: said, first: first})
	v.part(said)
}

// firstSplit tells the first pair that would be parted. Its lesser state is
// the least one of those that it is held together with: if any two of them are
// parted, that one is parted from one of the two.
func (v *sieve) firstSplit(said []int) (first pair, splits bool) {
	for t, s := range v.least {
		if said[s] != said[t] && (!splits || s < first.s) {
			first, splits = pair{s, t}, true
		}
	}
	return first, splits
}

// part meets each group first at its least state.
func (v *sieve) part(said []int) {
	least := map[group]int{}
	for t := range v.least {
		g := group{v.least[t], said[t]}
		if _, there := least[g]; !there {
			least[g] = t
		}
		v.least[t] = least[g]
	}
	v.count = len(least)
}

func sortByPair(marks []mark) {
	slices.SortFunc(marks, func(a, b mark) int {
		return cmp.Or(cmp.Compare(a.first.s, b.first.s), cmp.Compare(a.first.t, b.first.t))
	})
}
