package cache

import "slices"

// none is no place of a child or of a sibling: the empty word stands there,
// which is neither.
const none = 0

// node is where a word stands among the others; it knows them by their places
// in the row.
type node struct {
	parent int // the word without its last symbol
	symbol int // its last one
	child  int // the first of the words that have one symbol more; or none
	next   int // the next child of its parent, by a greater symbol; or none
}

// note is what is kept of a word.
type note struct {
	known bool
	last  int // what was said last of it; of a Mealy's empty word nothing was
}

// entry is a node with what is kept of its word.
type entry struct {
	node
	note
}

// row has an entry for each beginning of the words that are kept, the empty
// word's at place 0.
type row []entry

func newRow(emptyKnown bool) row {
	return row{entry{note: note{known: emptyKnown}}}
}

func (n node) goesOn() bool {
	return n.child != none
}

// clashesWith tells whether both know something, and not the same.
func (n note) clashesWith(other note) bool {
	return n.known && other.known && n != other
}

// around tells, of the children at a place, the last one by a lesser symbol
// than x and the one behind it; none, where there is none.
func (r row) around(at, x int) (before, behind int) {
	before, behind = none, r[at].child
	for behind != none && r[behind].symbol < x {
		before, behind = behind, r[behind].next
	}
	return before, behind
}

// childBy tells the place of the word at a place with x behind it; or none.
func (r row) childBy(at, x int) int {
	_, child := r.around(at, x)
	if child != none && r[child].symbol != x {
		return none
	}
	return child
}

// walk tells the places of w's beginnings, from the empty one on, as far as
// they stand in the row.
func (r row) walk(w []int) []int {
	path := []int{0}
	at := 0
	for _, x := range w {
		if at = r.childBy(at, x); at == none {
			break
		}
		path = append(path, at)
	}
	return path
}

// find tells the way to w, if something is kept of it.
func (r row) find(w []int) (path []int, ok bool) {
	path = r.walk(w)
	if len(path) <= len(w) || !r[path[len(w)]].known {
		return nil, false
	}
	return path, true
}

func (r row) clashes(path []int, notes []note) bool {
	for i, at := range path {
		if r[at].clashesWith(notes[i]) {
			return true
		}
	}
	return false
}

// keep notes down what is known of w's beginnings, those of them that are not
// on the path yet included.
func (r *row) keep(path, w []int, notes []note) {
	for i := len(path); i <= len(w); i++ {
		path = append(path, r.add(path[i-1], w[i-1]))
	}
	for i, at := range path {
		if notes[i].known {
			(*r)[at].note = notes[i]
		}
	}
}

// add makes the entry of a parent's word with symbol x behind it, and tells
// its place. Children stand by their symbols, so that words can be told in
// their order.
func (r *row) add(parent, x int) int {
	made := len(*r)
	before, behind := r.around(parent, x)
	*r = append(*r, entry{node: node{parent: parent, symbol: x, next: behind}})
	if before == none {
		(*r)[parent].child = made
	} else {
		(*r)[before].next = made
	}
	return made
}

// inOrder tells all places in the order of their words: one symbol more comes
// behind all that are as long.
func (r row) inOrder() []int {
	places := make([]int, 1, len(r))
	for i := 0; i < len(places); i++ {
		for child := r[places[i]].child; child != none; child = r[child].next {
			places = append(places, child)
		}
	}
	return places
}

// spell tells the word that stands at a place.
func (r row) spell(at int) []int {
	var w []int
	for ; at != 0; at = r[at].parent {
		w = append(w, r[at].symbol)
	}
	slices.Reverse(w)
	return w
}
