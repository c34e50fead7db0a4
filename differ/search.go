package differ

import (
	"slices"

	"tutor/api"
)

// step is how a pair was first come to.
type step struct {
	from pair
	by   int
}

// ties holds states together: from each one a chain leads to a state that is
// the same for all that are held together.
type ties []int

// firstWord tells the first word that tells the start's states apart. Pairs
// join the queue in the order of the first words that lead to them.
//
// A pair whose states are tied by pairs seen before it is left out: a word that
// tells it apart tells one of those apart, too, and these are come to by words
// that are ahead. So there are fewer pairs than states.
func firstWord(m api.Machine, start pair) (w []int, apart bool) {
	if m.Kind == api.Dfa && m.Out[start.s] != m.Out[start.t] {
		return nil, true
	}
	seen := map[pair]step{}
	tied := newTies(m.N)
	tied.tie(start)
	queue := []pair{start}
search:
	for at := 0; at < len(queue); at++ {
		p := queue[at]
		for x := range m.K {
			if saidBy(m, p.s, x) != saidBy(m, p.t, x) {
				w, apart = append(wordTo(p, start, seen), x), true
				break search
			}
			next := pair{m.Next[p.s*m.K+x], m.Next[p.t*m.K+x]}
			if tied.tie(next) {
				seen[next] = step{from: p, by: x}
				queue = append(queue, next)
			}
		}
	}
	return w, apart
}

// saidBy tells what is said last, if x comes in state s.
func saidBy(m api.Machine, s, x int) int {
	way := s*m.K + x
	if m.Kind == api.Dfa {
		return m.Out[m.Next[way]]
	}
	return m.Out[way]
}

// wordTo tells the word by which p was first come to.
func wordTo(p, start pair, seen map[pair]step) []int {
	var w []int
	for p != start {
		last := seen[p]
		w = append(w, last.by)
		p = last.from
	}
	slices.Reverse(w)
	return w
}

func newTies(n int) ties {
	l := make(ties, n)
	for s := range l {
		l[s] = s
	}
	return l
}

// tie tells false if both were held together before.
func (l ties) tie(p pair) bool {
	s, t := l.end(p.s), l.end(p.t)
	l[s] = t
	return s != t
}

func (l ties) end(s int) int {
	for l[s] != s {
		// The chain is made shorter on the way, for those who come later.
		l[s] = l[l[s]]
		s = l[s]
	}
	return s
}
